/- The walks of the laws of DomsOf and DominatesIn. -/
import Derived.Test.YtbbhbjdpdhbjlaaGf
import Derived.Test.YtbbhbjdpdhbjlaaG9
set_option linter.unusedSimpArgs false
set_option linter.unusedVariables false
namespace Go.Proofs.Ytbbhbjdpdhbjlaa.Gp
open Go.RowKit Pl
section
variable {L : Nat → List Nat} {N : Nat}
theorem av_none {v : Nat} (h : Av L [0] [0] v) : False := by
  induction h with
  | start q h hn => exact hn h
  | step p q _ _ _ ih => exact ih
theorem dom_start (hL : Gd L N) : domI L 0 = -1 := by
  rcases domI_cases hL 0 with ⟨h, _⟩ | ⟨y, _, hne, hd, _⟩
  · exact h
  · rcases hd.2 with h | h
    · exact absurd h.symm hne
    · exact absurd (Av.start 0 (by simp) (by simp; omega)) h
theorem dom_other (hL : Gd L N) {v : Nat} (hv : v ∈ orderP L) (h0 : v ≠ 0) : ∃ y : Nat, domI L v = (y : Int) ∧ y ≠ v ∧ Dm L y v := by
  have hav := (mem_order hL v).1 hv
  rcases domI_cases hL v with ⟨_, h⟩ | ⟨y, h1, h2, h3, _⟩
  · exact absurd (h 0 ⟨hav, .inr (fun h => av_none h)⟩).symm h0
  · exact ⟨y, h1, h2, h3⟩
end
end Go.Proofs.Ytbbhbjdpdhbjlaa.Gp
namespace Go.Proofs.Ytbbhbjdpdhbjlaa.Ge
open Go.RowKit Pl Ft Mm In Gp Sr

set_option maxHeartbeats 1000000 in
theorem drawDomsOf_c (a : Option Addr) (len cap : Nat) (zs : List Int) (w : World) (hB : Bytes w a len zs) :
    Calls Try.prog 24 #[.slice a len cap] w (DrawG w) := by
  have H := hid hB
  clear hB
  go_enter Try.func24, Try.ntmps24
  go_wp2_with fail
  refine (from_c a len cap zs w H.out).mono ?_
  rintro e w1 ⟨sb, rfl, hsb, s1, b1⟩
  have S1 := hid s1
  have B1 := hid b1
  clear s1 b1
  go_wp2_with fail
  refine (graph_c sb a len cap zs 0 w1 S1.out (by omega)).mono ?_
  rintro e w2 ⟨v, g, k2, rfl, hg, h1, h2, h3, _, _, _, m2, _⟩
  obtain ⟨sg, cg, rfl⟩ := hg.slice
  have HG := hid hg
  have HZ := hid (sz_of h2 h3)
  have B2 := hid (m2.below B1.out hsb B1.out.size)
  clear m2 hg h2 h3
  go_wp2_with fail
  go_ret
  exact ⟨_, g, rfl, HG.out, h1, HZ.out, B2.out⟩
theorem domsS_ok {g : List (List Int)} (h : domsS g ≠ []) : okG g = true := by
  unfold domsS at h
  split at h
  · assumption
  · exact absurd rfl h
theorem domsS_get {g : List (List Int)} (h : okG g = true) {p : Nat} (hp : p < g.length) : (domsS g).getD p 0 = domI (adj g) p := by
  unfold domsS domsP
  rw [if_pos h]
  simp [hp]
theorem domsS_size {g : List (List Int)} (h : okG g = true) : (domsS g).length = g.length := by
  unfold domsS domsP
  rw [if_pos h]
  simp
theorem overS_dm {g : List (List Int)} (h : okG g = true) (x p : Nat) : overS g (x : Int) (p : Int) = true ↔ Dm (adj g) x p := by
  unfold overS
  rw [if_pos h, decide_eq_true_iff, mem_natI', below_dm (adj_bd h)]
/-- What the law of DomsOf asks at a node of the order. -/
theorem doms_law {g : List (List Int)} (h : okG g = true) {k : Nat} (hk : k < (orderS g).length) : ∃ p : Nat, (orderS g).getD k 0 = p ∧ p < g.length ∧ (p = 0 ∨ ∃ y : Nat, (domsS g).getD p 0 = y ∧ y ≠ p ∧ overS g y p = true) := by
  obtain ⟨p, hp, hpN⟩ := orderS_at hk
  refine ⟨p, hp, hpN, ?_⟩
  by_cases h0 : p = 0
  · exact .inl h0
  · have hL := adj_bd h
    have hm : p ∈ orderP (adj g) := by
      have h2 : (orderS g).getD k 0 ∈ orderS g := by simp [hk]
      rw [hp] at h2
      unfold orderS at h2
      rw [if_pos h] at h2
      exact mem_natI'.1 h2
    obtain ⟨y, h1, h2, h3⟩ := dom_other hL hm h0
    exact .inr ⟨y, by rw [domsS_get h hpN, h1], h2, (overS_dm h y p).2 h3⟩
theorem doms_first {g : List (List Int)} (h : okG g = true) : (domsS g).getD 0 0 = -1 := by
  have hL := adj_bd h
  rw [domsS_get h hL.pos, dom_start hL]
theorem over_law {g : List (List Int)} {x y : Nat} (h : overS g (x : Int) (y : Int) = true) (hne : x ≠ y) : y < g.length ∧ y < (domsS g).length ∧ ∃ z : Nat, (domsS g).getD y 0 = z ∧ overS g x z = true := by
  have hok : okG g = true := by
    unfold overS at h
    split at h
    · assumption
    · cases h
  have hL := adj_bd hok
  have hd := (overS_dm hok x y).1 h
  have hy : y < g.length := hd.1.lt hL.bd (st_lt hL)
  refine ⟨hy, by rw [domsS_size hok]; exact hy, ?_⟩
  rcases domI_cases hL y with ⟨_, h1⟩ | ⟨z, h1, _, _, h4⟩
  · exact absurd (h1 x hd) hne
  · exact ⟨z, by rw [domsS_get hok hy, h1], (overS_dm hok x z).2 (h4 x hd hne)⟩
set_option maxRecDepth 100000 in
set_option maxHeartbeats 4000000 in
theorem domsOf_w (a : Option Addr) (len cap : Nat) (zs : List Int) (w : World) (hB : Bytes w a len zs) :
    Calls Try.prog 5 #[.slice a len cap] w fun e w' => e = .returned (.bool true) ∧ Below w.heap.size w w' := by
  have hs := hB.small
  have H := hid hB
  clear hB
  go_enter Try.func5, Try.ntmps5
  go_wp2_with fail
  refine (drawDomsOf_c a len cap zs w H.out).mono ?_
  rintro e w1 ⟨v1, g, rfl, hg, hg1, hz, b1⟩
  obtain ⟨sg, cg, rfl⟩ := hg.slice
  have HG := hid hg
  have HZ := hid hz
  have hgl := hz.len
  have B1 := hid b1
  clear hg hz b1
  have hol := domsS_len g
  have hql := orderS_len g
  have HOk := hid (domsS_ok (g := g))
  have HLw := hid (fun k (h : okG g = true) => doms_law (k := k) h)
  have HFi := hid (doms_first (g := g))
  have HSz := hid (domsS_size (g := g))
  obtain ⟨os, hos⟩ : ∃ os, domsS g = os := ⟨_, rfl⟩
  obtain ⟨qs, hqs⟩ : ∃ qs, orderS g = qs := ⟨_, rfl⟩
  have HOs := hid hos
  have HQs := hid hqs
  rw [hos] at hol HOk HLw HFi HSz
  rw [hqs] at hql HLw
  clear hos hqs
  go_wp2_with fail
  refine (domsOf_c g _ _ w1 HG.out HZ.out).mono ?_
  rw [HOs.out]
  rintro e w2 ⟨v2, rfl, hown2, hb2⟩
  obtain ⟨s2, c2, rfl⟩ := own_slice hown2
  have HO2 := hid hown2
  have HG2 := hid (HG.out.on hb2)
  have B2 := hid (B1.out.trans (hb2.mono B1.out.size))
  clear hown2 hb2
  go_wp2_with fail
  refine (sDomsOf_c g _ _ w2 HG2.out HZ.out).mono ?_
  rw [HOs.out]
  rintro e w3 ⟨v3, rfl, hown3, hb3⟩
  obtain ⟨s3, c3, rfl⟩ := own_slice hown3
  have HO3 := hid hown3
  have HP3 := hid (own_on HO2.out hb3)
  have HG3 := hid (HG2.out.on hb3)
  have B3 := hid (B2.out.trans (hb3.mono B2.out.size))
  clear hown3 hb3
  go_wp2_with fail
  refine (SameInts_b os _ _ w3 (.of_own HP3.out) (.of_own HO3.out) (by omega)).mono ?_
  rintro e w4 ⟨rfl, hb4⟩
  have HP4 := hid (own_on HP3.out hb4)
  have HG4 := hid (HG3.out.on hb4)
  have B4 := hid (B3.out.trans (hb4.mono B3.out.size))
  clear hb4
  by_cases h0 : os = []
  · subst h0
    go_wp2_with fail
    go_ret
    exact ⟨rfl, B4.out⟩
  have hpos : 0 < os.length := List.length_pos_iff.2 h0
  have hne : ((os.length : Int) == 0) = false := by rw [beq_eq_false_iff_ne]; omega
  have hne2 : ¬ os.length = 0 := by omega
  have hok := HOk.out h0
  have HLw2 := hid (fun k => HLw.out k hok)
  have hf0 := HFi.out hok
  have hsz := HSz.out hok
  clear h0 hok
  have HF0 := hid hf0
  clear hf0
  go_wp2_with fail
  refine (orderOf_c g _ _ w4 HG4.out HZ.out).mono ?_
  rw [HQs.out]
  rintro e w5 ⟨v5, rfl, hown5, hb5⟩
  obtain ⟨s5, c5, rfl⟩ := own_slice hown5
  have HQ5 := hid hown5
  have HP5 := hid (own_on HP4.out hb5)
  have HG5 := hid (HG4.out.on hb5)
  have B5 := hid (B4.out.trans (hb5.mono B4.out.size))
  clear hown5 hb5
  go_wp2_with fail
  go_loopw [32] (fun y wr => ∃ i : Nat, y = .int .i64 i ∧ i ≤ qs.length ∧ GAt w1.heap.size wr (.slice sg g.length cg) g ∧ wr.ownsRow w1.heap.size 3 1 (.slice s2 os.length c2) os.length (ints os) ∧ wr.ownsRow w4.heap.size 3 1 (.slice s5 qs.length c5) qs.length (ints qs) ∧ Below w.heap.size w wr) (fun y _ => qs.length - (intOf y).toNat)
  case atStart => exact ⟨0, rfl, by omega, HG5.out, HP5.out, HQ5.out, B5.out⟩
  case round =>
    obtain ⟨i, rfl, hi, hG, hO, hQ, hB⟩ := hrel
    have HGr := hid hG
    have HOr := hid hO
    have HQr := hid hQ
    have HBr := hid hB
    clear hG hO hQ hB
    obtain ⟨a8, c8, e8, h8⟩ := Rd.of_own HOr.out
    rcases h8 with h8 | ⟨b4, o4, rfl, hb4, hc4⟩
    · rw [h8] at hpos; simp at hpos
    simp only [Value.slice.injEq, true_and, and_true] at e8
    obtain ⟨rfl, rfl⟩ := e8
    by_cases hlt : i < qs.length
    case neg =>
      obtain rfl : i = qs.length := by omega
      have q2 := hc4 0 hpos
      rw [HF0.out] at q2
      simp only [Nat.add_zero] at q2
      clear hc4
      have hpos2 : (0 : Int) < os.length := by omega
      go_wp2_with fail
      go_ret
      exact ⟨rfl, HBr.out⟩
    obtain ⟨p, hpe, hpN, hcase⟩ := HLw2.out i hlt
    have hpo : p < os.length := by omega
    have q2 := hc4 p hpo
    obtain ⟨a9, c9, e9, h9⟩ := Rd.of_own HQr.out
    rcases h9 with h9 | ⟨b3, o3, rfl, hb3, hc3⟩
    · rw [h9] at hlt; simp at hlt
    simp only [Value.slice.injEq, true_and, and_true] at e9
    obtain ⟨rfl, rfl⟩ := e9
    have q1 := hc3 i hlt
    rw [hpe] at q1
    clear hc3 hpe hc4
    have hi2 : (i : Int) < qs.length := by omega
    have hi0 : 0 ≤ (i : Int) := by omega
    have hp2 : (p : Int) < os.length := by omega
    have hp0 : 0 ≤ (p : Int) := by omega
    by_cases hpz : p = 0
    · subst hpz
      clear hcase q2 hp2 hp0
      go_wp2_with fail
      exact ⟨⟨i + 1, by go_num, by omega, HGr.out, HOr.out, HQr.out, HBr.out⟩, by simp only [intOf]; omega⟩
    obtain ⟨y, hy1, hy2, hy3⟩ := hcase.resolve_left hpz
    rw [hy1] at q2
    have HY := hid hy3
    clear hcase hy1 hy3
    have hpz2 : ¬ (p : Int) = 0 := by omega
    have hyp : ((y : Int) == (p : Int)) = false := by rw [beq_eq_false_iff_ne]; omega
    have hyp2 : ¬ (y : Int) = p := by omega
    have hy0 : ¬ (y : Int) < 0 := by omega
    go_wp2_with fail
    refine (dominatesIn_c g y p _ _ wr HGr.out HZ.out).mono ?_
    rw [HY.out]
    rintro e w6 ⟨rfl, hb6⟩
    have HO6 := hid (own_on HOr.out hb6)
    have HQ6 := hid (own_on HQr.out hb6)
    have HG6 := hid (HGr.out.on hb6)
    have HB6 := hid (HBr.out.trans (hb6.mono HBr.out.size))
    clear hb6 q1 q2
    go_wp2_with fail
    exact ⟨⟨i + 1, by go_num, by omega, HG6.out, HO6.out, HQ6.out, HB6.out⟩, by simp only [intOf]; omega⟩
/-- A graph and two numbers have been drawn from bytes. -/
def DrawGNN (w : World) (e : Ending) (w' : World) : Prop :=
  ∃ (v : Value) (g : List (List Int)) (x y : Nat), e = .returned (.tuple #[v, .int .i64 x, .int .i64 y]) ∧ GAt w'.heap.size w' v g ∧ Sz g ∧ Below w.heap.size w w'
set_option maxRecDepth 100000 in
set_option maxHeartbeats 4000000 in
theorem drawDominatesIn_c (a : Option Addr) (len cap : Nat) (zs : List Int) (w : World) (hB : Bytes w a len zs) :
    Calls Try.prog 28 #[.slice a len cap] w (DrawGNN w) := by
  have H := hid hB
  clear hB
  go_enter Try.func28, Try.ntmps28
  go_wp2_with fail
  refine (from_c a len cap zs w H.out).mono ?_
  rintro e w1 ⟨sb, rfl, hsb, s1, b1⟩
  have S1 := hid s1
  have B1 := hid b1
  clear s1 b1
  go_wp2_with fail
  refine (graph_c sb a len cap zs 0 w1 S1.out (by omega)).mono ?_
  rintro e w2 ⟨v, g, k2, rfl, _, h1, h2, h3, hk2, hk2', s2, m2, lo, us, hlo, hg⟩
  obtain ⟨sg, cg, rfl⟩ := hg.at_.slice
  have HG := hid hg
  have HZ := hid (sz_of h2 h3)
  have B2 := hid (m2.below B1.out hsb B1.out.size)
  have S2 := hid s2
  clear m2 hg h3 s2
  go_wp2_with fail
  refine (pick_c g.length sb a len cap zs k2 w2 S2.out (by omega) (by omega)).mono ?_
  rintro e w3 ⟨x, k3, rfl, hx, hk3, hk3', s3, m3⟩
  obtain ⟨x, rfl⟩ : ∃ n : Nat, x = n := ⟨x.toNat, by omega⟩
  have HG3 := hid (HG.out.moved hlo m3)
  have B3 := hid (m3.below B2.out hsb B2.out.size)
  have S3 := hid s3
  clear m3 s3 hx
  go_wp2_with fail
  refine (pick_c ((g.length : Int) + 1) sb a len cap zs k3 w3 S3.out (by omega) (by omega)).mono ?_
  rintro e w4 ⟨y, k4, rfl, hy, hk4, hk4', s4, m4⟩
  obtain ⟨y, rfl⟩ : ∃ n : Nat, y = n := ⟨y.toNat, by omega⟩
  have HG4 := hid (HG3.out.moved hlo m4).at_
  have B4 := hid (m4.below B3.out hsb B3.out.size)
  clear m4 s4 hy
  go_wp2_with fail
  go_ret3
  exact ⟨_, g, x, y, rfl, HG4.out, HZ.out, B4.out⟩
set_option maxRecDepth 100000 in
set_option maxHeartbeats 4000000 in
theorem dominatesIn_w (a : Option Addr) (len cap : Nat) (zs : List Int) (w : World) (hB : Bytes w a len zs) :
    Calls Try.prog 6 #[.slice a len cap] w fun e w' => e = .returned (.bool true) ∧ Below w.heap.size w w' := by
  have hs := hB.small
  have H := hid hB
  clear hB
  go_enter Try.func6, Try.ntmps6
  go_wp2_with fail
  refine (drawDominatesIn_c a len cap zs w H.out).mono ?_
  rintro e w1 ⟨v1, g, x, y, rfl, hg, hz, b1⟩
  obtain ⟨sg, cg, rfl⟩ := hg.slice
  have HG := hid hg
  have HZ := hid hz
  have hgl := hz.len
  have B1 := hid b1
  clear hg hz b1
  have HLw := hid (over_law (g := g) (x := x) (y := y))
  have hol := domsS_len g
  obtain ⟨os, hos⟩ : ∃ os, domsS g = os := ⟨_, rfl⟩
  obtain ⟨r, hr⟩ : ∃ r, overS g x y = r := ⟨_, rfl⟩
  have HOs := hid hos
  have HR := hid hr
  rw [hos] at hol HLw
  rw [hr] at HLw
  clear hos hr
  go_wp2_with fail
  refine (dominatesIn_c g x y _ _ w1 HG.out HZ.out).mono ?_
  rw [HR.out]
  rintro e w2 ⟨rfl, hb2⟩
  have HG2 := hid (HG.out.on hb2)
  have B2 := hid (B1.out.trans (hb2.mono B1.out.size))
  clear hb2
  go_wp2_with fail
  refine (sDominatesIn_c g x y _ _ w2 HG2.out HZ.out).mono ?_
  rw [HR.out]
  rintro e w3 ⟨rfl, hb3⟩
  have HG3 := hid (HG2.out.on hb3)
  have B3 := hid (B2.out.trans (hb3.mono B2.out.size))
  clear hb3
  cases r
  · go_wp2_with fail
    go_ret
    exact ⟨rfl, B3.out⟩
  by_cases hxy : x = y
  · subst hxy
    go_wp2_with fail
    go_ret
    exact ⟨rfl, B3.out⟩
  obtain ⟨hy1, hy2, z, hz1, hz2⟩ := HLw.out rfl hxy
  have HZz := hid hz1
  have HOv := hid hz2
  clear hz1 hz2
  have hxy2 : ((x : Int) == (y : Int)) = false := by rw [beq_eq_false_iff_ne]; omega
  have hxy3 : ¬ (x : Int) = y := by omega
  go_wp2_with fail
  refine (domsOf_c g _ _ w3 HG3.out HZ.out).mono ?_
  rw [HOs.out]
  rintro e w4 ⟨v4, rfl, hown4, hb4⟩
  have HG4 := hid (HG3.out.on hb4)
  have B4 := hid (B3.out.trans (hb4.mono B3.out.size))
  obtain ⟨s4, c4, rfl⟩ := own_slice hown4
  obtain ⟨a8, c8, e8, h8⟩ := Rd.of_own hown4
  rcases h8 with h8 | ⟨b5, o5, rfl, hb5, hc5⟩
  · rw [h8] at hy2; simp at hy2
  simp only [Value.slice.injEq, true_and, and_true] at e8
  obtain ⟨rfl, rfl⟩ := e8
  have q2 := hc5 y hy2
  rw [HZz.out] at q2
  clear hown4 hb4 hc5
  have hy3 : (y : Int) < os.length := by omega
  have hy0 : 0 ≤ (y : Int) := by omega
  go_wp2_with fail
  refine (dominatesIn_c g x z _ _ w4 HG4.out HZ.out).mono ?_
  rw [HOv.out]
  rintro e w5 ⟨rfl, hb5'⟩
  have B5 := hid (B4.out.trans (hb5'.mono B4.out.size))
  clear hb5'
  go_wp2_with fail
  go_ret
  exact ⟨rfl, B5.out⟩
end Go.Proofs.Ytbbhbjdpdhbjlaa.Ge
