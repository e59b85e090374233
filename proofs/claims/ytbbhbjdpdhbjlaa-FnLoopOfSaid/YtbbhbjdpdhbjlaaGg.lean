/- The walk of the law of HeadsOf. -/
import Derived.Test.YtbbhbjdpdhbjlaaGf
import Derived.Test.YtbbhbjdpdhbjlaaGi
set_option linter.unusedSimpArgs false
set_option linter.unusedVariables false
namespace Go.Proofs.Ytbbhbjdpdhbjlaa.Ge
open Go.RowKit Pl Ft Mm In Gp Sr

set_option maxHeartbeats 1000000 in
theorem drawHeadsOf_c (a : Option Addr) (len cap : Nat) (zs : List Int) (w : World) (hB : Bytes w a len zs) :
    Calls Try.prog 30 #[.slice a len cap] w (DrawG w) := by
  have H := hid hB
  clear hB
  go_enter Try.func30, Try.ntmps30
  go_wp2_with fail
  refine (from_c a len cap zs w H.out).mono ?_
  rintro e w1 ⟨sb, rfl, hsb, s1, b1⟩
  have S1 := hid s1
  have B1 := hid b1
  clear s1 b1
  go_wp2_with fail
  refine (graph_c sb a len cap zs 0 w1 S1.out (by omega)).mono ?_
  rintro e w2 ⟨v, g, k2, rfl, hg, h1, h2, h3, _, _, _, m2, _⟩
  obtain ⟨sg, cg, rfl⟩ := hg.slice
  have HG := hid hg
  have HZ := hid (sz_of h2 h3)
  have B2 := hid (m2.below B1.out hsb B1.out.size)
  clear m2 hg h2 h3
  go_wp2_with fail
  go_ret
  exact ⟨_, g, rfl, HG.out, h1, HZ.out, B2.out⟩
theorem heads_ok {g : List (List Int)} {x : Int} (h : x ∈ headsS g) : okG g = true ∧ x ∈ headsP (adj g) g.length := by
  unfold headsS at h
  split at h
  · rename_i hok
    exact ⟨hok, h⟩
  · cases h
theorem heads_in {g : List (List Int)} {x : Int} (h : x ∈ headsS g) : x ∈ loopS g x := by
  obtain ⟨hok, hx⟩ := heads_ok h
  obtain ⟨p, rfl, hp, _⟩ := heads_nat hx
  unfold loopS
  rw [if_pos hok, if_pos hx, Int.toNat_natCast]
  unfold loopP truesL
  refine List.mem_map.2 ⟨p, List.mem_filter.2 ⟨List.mem_range.2 hp, decide_eq_true ?_⟩, rfl⟩
  refine ((left_facts (gd_pred (adj_bd hok) p) [p] (fun q hq => ?_)).mem p).2 (.start p (by simp) (by simp))
  obtain rfl : q = p := by simpa using hq
  exact hp
theorem loop_in {g : List (List Int)} {x v : Int} (h : v ∈ loopS g x) : overS g x v = true ∧ x ∈ loopS g x := by
  have h2 := h
  unfold loopS at h2
  split at h2
  case isFalse => cases h2
  rename_i hok
  split at h2
  case isFalse => cases h2
  rename_i hx
  have hh : x ∈ headsS g := by unfold headsS; rw [if_pos hok]; exact hx
  refine ⟨?_, heads_in hh⟩
  have hL := adj_bd hok
  obtain ⟨p, rfl, hp, hb⟩ := heads_nat hx
  rw [Int.toNat_natCast] at h2
  unfold loopP truesL at h2
  obtain ⟨q, hq, rfl⟩ := List.mem_map.1 h2
  have hq2 := of_decide_eq_true (List.mem_filter.1 hq).2
  have hav := ((left_facts (gd_pred hL p) [p] (fun q hq => by
    obtain rfl : q = p := by simpa using hq
    exact hp)).mem q).1 hq2
  unfold overS
  rw [if_pos hok]
  refine decide_eq_true (mem_natI'.2 ?_)
  cases hav with
  | start _ hs _ =>
    obtain rfl : q = p := by simpa using hs
    obtain ⟨e, he, rfl⟩ := List.mem_map.1 hb
    exact (below_dm hL _ _).2 (Dm.refl ((mem_order hL _).1 (backs_lt hok he).2.1))
  | step r _ _ hm _ => exact (List.mem_filter.1 hm).1
set_option maxRecDepth 100000 in
set_option maxHeartbeats 4000000 in
theorem headsOf_w (a : Option Addr) (len cap : Nat) (zs : List Int) (w : World) (hB : Bytes w a len zs) :
    Calls Try.prog 7 #[.slice a len cap] w fun e w' => e = .returned (.bool true) ∧ Below w.heap.size w w' := by
  have hs := hB.small
  have H := hid hB
  clear hB
  go_enter Try.func7, Try.ntmps7
  go_wp2_with fail
  refine (drawHeadsOf_c a len cap zs w H.out).mono ?_
  rintro e w1 ⟨v1, g, rfl, hg, hg1, hz, b1⟩
  obtain ⟨sg, cg, rfl⟩ := hg.slice
  have HG := hid hg
  have HZ := hid hz
  have hgl := hz.len
  have B1 := hid b1
  clear hg hz b1
  have hol := headsS_len g
  have HIn := hid (fun x => heads_in (g := g) (x := x))
  obtain ⟨os, hos⟩ : ∃ os, headsS g = os := ⟨_, rfl⟩
  have HOs := hid hos
  rw [hos] at hol HIn
  obtain ⟨r, hr⟩ : ∃ r, redS g = r := ⟨_, rfl⟩
  have HR := hid hr
  clear hos hr
  go_wp2_with fail
  refine (headsOf_c g _ _ w1 HG.out HZ.out).mono ?_
  rw [HOs.out]
  rintro e w2 ⟨v2, rfl, hown2, hb2⟩
  obtain ⟨s2, c2, rfl⟩ := own_slice hown2
  have HO2 := hid hown2
  have HG2 := hid (HG.out.on hb2)
  have B2 := hid (B1.out.trans (hb2.mono B1.out.size))
  clear hown2 hb2
  go_wp2_with fail
  refine (sHeadsOf_c g _ _ w2 HG2.out HZ.out).mono ?_
  rw [HOs.out]
  rintro e w3 ⟨v3, rfl, hown3, hb3⟩
  obtain ⟨s3, c3, rfl⟩ := own_slice hown3
  have HO3 := hid hown3
  have HP3 := hid (own_on HO2.out hb3)
  have HG3 := hid (HG2.out.on hb3)
  have B3 := hid (B2.out.trans (hb3.mono B2.out.size))
  clear hown3 hb3
  go_wp2_with fail
  refine (SameInts_b os _ _ w3 (.of_own HP3.out) (.of_own HO3.out) (by omega)).mono ?_
  rintro e w4 ⟨rfl, hb4⟩
  have HP4 := hid (own_on HP3.out hb4)
  have HG4 := hid (HG3.out.on hb4)
  have B4 := hid (B3.out.trans (hb4.mono B3.out.size))
  clear hb4
  by_cases h0 : os = []
  · subst h0
    go_wp2_with fail
    go_ret
    exact ⟨rfl, B4.out⟩
  have hpos : 0 < os.length := List.length_pos_iff.2 h0
  have hne : ((os.length : Int) == 0) = false := by rw [beq_eq_false_iff_ne]; omega
  have hne2 : ¬ os.length = 0 := by omega
  clear h0
  go_wp2_with fail
  refine (reducible_c g _ _ w4 HG4.out HZ.out).mono ?_
  rw [HR.out]
  rintro e w5 ⟨rfl, hb5⟩
  have HP5 := hid (own_on HP4.out hb5)
  have HG5 := hid (HG4.out.on hb5)
  have B5 := hid (B4.out.trans (hb5.mono B4.out.size))
  clear hb5
  cases r
  · go_wp2_with fail
    go_ret
    exact ⟨rfl, B5.out⟩
  go_wp2_with fail
  go_loopw [34] (fun y wr => ∃ i : Nat, y = .int .i64 i ∧ i ≤ os.length ∧ GAt w1.heap.size wr (.slice sg g.length cg) g ∧ wr.ownsRow w1.heap.size 3 1 (.slice s2 os.length c2) os.length (ints os) ∧ Below w.heap.size w wr) (fun y _ => os.length - (intOf y).toNat)
  case atStart => exact ⟨0, rfl, by omega, HG5.out, HP5.out, B5.out⟩
  case round =>
    obtain ⟨i, rfl, hi, hG, hO, hB⟩ := hrel
    have HGr := hid hG
    have HOr := hid hO
    have HBr := hid hB
    clear hG hO hB
    by_cases hlt : i < os.length
    case neg =>
      obtain rfl : i = os.length := by omega
      go_wp2_with fail
      go_ret
      exact ⟨rfl, HBr.out⟩
    have hmem : os.getD i 0 ∈ os := by simp [hlt]
    obtain ⟨x, hxe⟩ : ∃ x, os.getD i 0 = x := ⟨_, rfl⟩
    rw [hxe] at hmem
    have HX := hid (HIn.out x hmem)
    clear hmem
    obtain ⟨a9, c9, e9, h9⟩ := Rd.of_own HOr.out
    rcases h9 with h9 | ⟨b3, o3, rfl, hb3, hc3⟩
    · rw [h9] at hlt; simp at hlt
    simp only [Value.slice.injEq, true_and, and_true] at e9
    obtain ⟨rfl, rfl⟩ := e9
    have q1 := hc3 i hlt
    rw [hxe] at q1
    clear hc3 hxe
    have hi2 : (i : Int) < os.length := by omega
    have hi0 : 0 ≤ (i : Int) := by omega
    have hll := loopS_len g x
    obtain ⟨ls, hls⟩ : ∃ ls, loopS g x = ls := ⟨_, rfl⟩
    have HLs := hid hls
    rw [hls] at hll HX
    clear hls
    go_wp2_with fail
    refine (loopOf_c g x _ _ wr HGr.out HZ.out).mono ?_
    rw [HLs.out]
    rintro e w6 ⟨v6, rfl, hown6, hb6⟩
    obtain ⟨s6, c6, rfl⟩ := own_slice hown6
    have HL6 := hid hown6
    have HO6 := hid (own_on HOr.out hb6)
    have HG6 := hid (HGr.out.on hb6)
    have HB6 := hid (HBr.out.trans (hb6.mono HBr.out.size))
    clear hown6 hb6
    go_wp2_with fail
    refine (SpecInList_c ls x _ w6 (Rd.of_own HL6.out) (by omega)).mono ?_
    rintro e w7 ⟨rfl, rfl⟩
    rw [decide_eq_true HX.out]
    go_wp2_with fail
    exact ⟨⟨i + 1, by go_num, by omega, HG6.out, HO6.out, HB6.out⟩, by simp only [intOf]; omega⟩
end Go.Proofs.Ytbbhbjdpdhbjlaa.Ge
