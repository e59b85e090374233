/- The loop of a head, and LoopOf: the program. -/
import Derived.Test.YtbbhbjdpdhbjlaaGq
set_option linter.unusedSimpArgs false
set_option linter.unusedVariables false
namespace Go.Proofs.Ytbbhbjdpdhbjlaa.Ge
open Go.RowKit Pl Ft Mm In Gp

/-- The nodes below a head that lead to a node. -/
noncomputable def predP (L : Nat → List Nat) (head : Nat) : Nat → List Nat := fun t => (belowP L (head : Int)).filter fun p => decide (t ∈ L p)
noncomputable def loopP (L : Nat → List Nat) (N head : Nat) : List Int := truesL (fun q => decide (q ∈ Gp.leftOf (predP L head) [head] [])) N
theorem below_lt {L : Nat → List Nat} {N : Nat} (hL : Gd L N) {x : Int} {p : Nat} (h : p ∈ belowP L x) : p < N := ((mem_below hL x p).1 h).1.lt hL.bd (st_lt hL)
theorem gd_pred {L : Nat → List Nat} {N : Nat} (hL : Gd L N) (head : Nat) : Gd (predP L head) N := ⟨hL.pos, fun t _ p hp => below_lt hL (List.mem_filter.1 hp).1⟩
theorem leadsNot_c (g : List (List Int)) (p t bs bt : Nat) (vg vo : Value) (w : World) (h : Sd w vg vo g) (hs : Row w bs 48 #[vg, vo]) (ht : Row w bt 3 #[.int .i64 t]) (hp : p < g.length) :
    Calls Try.prog 87 #[.int .i64 p, .pointer (some ⟨bs, 0, none⟩), .pointer (some ⟨bt, 0, none⟩)] w fun e w' => e = .returned (.bool (!decide (t ∈ adj g p))) ∧ w' = w := by
  obtain ⟨B, hg⟩ := h.gr
  have hlen := h.len
  have hok := h.ok
  have hl9 := (okG_at hok hp).1
  have HG := hid hg
  have s0 := hs.cell 0
  have s1 := hs.cell 1
  have t0 := ht.cell 0
  simp at s0 s1 t0
  have HM := hid (show decide ((t : Int) ∈ g.getD p []) = decide (t ∈ adj g p) by
    rw [← adj_nat hok hp]
    exact decide_eq_decide.2 mem_natI')
  obtain ⟨sg, cg, rfl⟩ := hg.slice
  clear h hs ht hg
  go_enter Try.func87, Try.ntmps87
  go_wp2_with fail
  refine (leads_c g p B t _ w HG.out hp (by omega) (by omega)).mono ?_
  rintro e w1 ⟨rfl, rfl⟩
  rw [HM.out]
  go_wp2_with fail
  go_ret
  exact ⟨rfl, rfl⟩
set_option maxRecDepth 100000 in
set_option maxHeartbeats 2000000 in
theorem loop1_c (g : List (List Int)) (head t bs bb lo : Nat) (vg vo vb : Value) (w : World) (h : Sd w vg vo g) (hs : Row w bs 48 #[vg, vo]) (hb : Row w bb 26 #[vb])
    (hown : w.ownsRow lo 3 1 vb (natI (belowP (adj g) head)).length (ints (natI (belowP (adj g) head)))) :
    Calls Try.prog 86 #[.int .i64 t, .pointer (some ⟨bs, 0, none⟩), .pointer (some ⟨bb, 0, none⟩)] w fun e w' => ∃ v, e = .returned v ∧ Rd w' v (natI (predP (adj g) head t)) ∧ (∀ k, v.ownBlock = some k → w.heap.size ≤ k) ∧ Below w.heap.size w w' := by
  have hok := h.ok
  have hlen := h.len
  have HSd := hid h
  have HOk := hid hok
  have hbl := below_len hok (head : Int)
  have HB1 := hid ((Below.refl w.heap.size w).alloc (Nat.le_refl _) (.cells #[.int .i64 t] 3))
  have HT1 := hid (Row.new w 3 #[.int .i64 t])
  have HS1 := hid (hs.alloc (.cells #[.int .i64 t] 3))
  have hb1 := hb.alloc (.cells #[.int .i64 t] 3)
  obtain ⟨bl, hbl9⟩ : ∃ bl, natI (belowP (adj g) head) = bl := ⟨_, rfl⟩
  have hbll : bl.length ≤ 30 := by rw [← hbl9, natI_len]; exact hbl
  have HBl := hid hbl9
  rw [hbl9] at hown
  have HO1 := hid (hown.alloc (.cells #[.int .i64 t] 3))
  obtain ⟨sb, cb, rfl⟩ := own_slice hown
  have b0 := hb1.cell 0
  simp at b0
  clear h hs hb hok hown hbl9 hb1 hbl
  go_enter Try.func86, Try.ntmps86
  go_wp2_with fail
  refine (clone_c bl lo _ _ HO1.out (by omega)).mono ?_
  rintro e w2 ⟨v2, rfl, hown2, hb2⟩
  have HB2 := hid (HB1.out.trans (hb2.mono HB1.out.size))
  have HT2 := hid (HT1.out.on hb2)
  have HS2 := hid (HS1.out.on hb2)
  have hz2 := HB1.out.size
  have hown3 := hown2
  rw [← HBl.out] at hown3
  have HO3 := hid hown3
  have hT := HT1.out.lt
  have hS := HS1.out.lt
  obtain ⟨s2, c2, rfl⟩ := own_slice hown2
  have hbnat : (belowP (adj g) head).length ≤ 30 := below_len HOk.out _
  obtain ⟨W1, hW1⟩ : ∃ W1, (w.alloc (.cells #[.int .i64 t] 3)).heap.size = W1 := ⟨_, rfl⟩
  have hbb := hb2
  rw [hW1] at HO3 hz2 hT hS hbb
  have HBb := hid hbb
  have HSdB := hid (HSd.out.on HB1.out)
  have HW1 := hid hW1
  clear hown2 hb2 hown3 b0 hW1 hbb
  go_wp2_with fail
  have hdel := del_n g.length hlen.1 W1 (belowP (adj g) head) (fun x hx => below_lt (adj_bd HOk.out) hx) (fun p => !decide (t ∈ adj g p)) 87 #[.pointer (some ⟨bs, 0, none⟩), .pointer (some ⟨w.heap.size, 0, none⟩)] _ w2 HO3.out (by omega) (fun xs w => by kernel_rfl)
    (fun W x hx hb => leadsNot_c g x t bs w.heap.size vg vo W (HSdB.out.on (by rw [HW1.out]; exact HBb.out.trans hb)) (HS2.out.below hb hS) (HT2.out.below hb hT) hx)
  refine hdel.mono ?_
  clear hdel
  rintro e w3 ⟨v3, rfl, hown3, ho3⟩
  have hfe : ((belowP (adj g) (head : Int)).filter fun p => !(!decide (t ∈ adj g p))) = predP (adj g) head t := by
    unfold predP
    congr 1
    funext p
    rw [Bool.not_not]
  rw [hfe] at hown3
  have HO4 := hid hown3
  have HB3 := hid (HB2.out.trans (ho3.below HB2.out.size (fun k hk => by have := (HO3.out.lt k hk).1; omega)))
  have HR3 := hid (Rd.of_own hown3)
  obtain ⟨s3, c3, rfl⟩ := own_slice hown3
  clear hown3 ho3 hfe
  go_wp2_with fail
  go_ret
  exact ⟨_, rfl, HR3.out, fun k hk => Nat.le_trans hz2 (HO4.out.lt k hk).1, HB3.out⟩
theorem lds_loop {g : List (List Int)} {head bs bb lo : Nat} {vg vo vb : Value} {w0 : World} (h : Sd w0 vg vo g) (hs : Row w0 bs 48 #[vg, vo]) (hb : Row w0 bb 26 #[vb])
    (hown : w0.ownsRow lo 3 1 vb (natI (belowP (adj g) head)).length (ints (natI (belowP (adj g) head)))) :
    Lds (predP (adj g) head) g.length 86 #[] #[.pointer (some ⟨bs, 0, none⟩), .pointer (some ⟨bb, 0, none⟩)] w0 where
  call p w hp hbl := by
    refine (loop1_c g head p bs bb lo vg vo vb w (h.on hbl) (hs.on hbl) (hb.on hbl) (own_on hown hbl)).mono ?_
    rintro e w' ⟨u, rfl, hr, hk, hb2⟩
    exact ⟨u, rfl, hr, fun k h2 => .inr (hk k h2), hb2⟩
  enter xs w := by kernel_rfl
  len p hp := by
    have h1 : (predP (adj g) head p).length ≤ (belowP (adj g) (head : Int)).length := List.length_filter_le _ _
    have h2 := below_len h.ok (head : Int)
    omega
set_option maxRecDepth 100000 in
set_option maxHeartbeats 2000000 in
theorem loop_c (g : List (List Int)) (head : Nat) (vg vo : Value) (w : World) (h : Sd w vg vo g) (hh : head < g.length) :
    Calls Try.prog 63 #[.agg #[vg, vo], .int .i64 head] w (WaysPost (loopP (adj g) g.length head) w) := by
  have hok := h.ok
  have hlen := h.len
  have HSd := hid h
  have HOk := hid hok
  have HB1 := hid ((Below.refl w.heap.size w).alloc (Nat.le_refl _) (.cells #[vg, vo] 48))
  have HS1 := hid (Row.new w 48 #[vg, vo])
  clear h hok
  go_enter Try.func63, Try.ntmps63
  go_wp2_with fail
  refine (below_c g head vg vo _ (HSd.out.on HB1.out)).mono ?_
  rintro e w2 ⟨v2, rfl, hown2, hb2⟩
  have HB2 := hid (HB1.out.trans (hb2.mono HB1.out.size))
  have HS2 := hid (HS1.out.on hb2)
  have HO2 := hid hown2
  obtain ⟨bl, hbl9⟩ : ∃ bl, natI (belowP (adj g) head) = bl := ⟨_, rfl⟩
  have HBl := hid hbl9
  rw [hbl9] at hown2
  obtain ⟨s2, c2, rfl⟩ := own_slice hown2
  have hz2 := HB2.out.size
  clear hown2 hb2 hbl9
  go_upto_region 2 with fail
  obtain ⟨w3, hw3⟩ : ∃ w3, w2.alloc (.cells #[.slice s2 bl.length c2] 26) = w3 := ⟨_, rfl⟩
  have hba := (Below.refl w2.heap.size w2).alloc (Nat.le_refl _) (.cells #[.slice s2 bl.length c2] 26)
  have hr3 := Row.new w2 26 #[.slice s2 bl.length c2]
  rw [hw3] at hba hr3 ⊢
  have HB3 := hid (HB2.out.trans (hba.mono hz2))
  have HS3 := hid (HS2.out.on hba)
  have HP3 := hid hr3
  have HO3 := hid (own_on HO2.out hba)
  clear hw3 hba hr3
  have HB4 := hid (HB3.out.alloc HB3.out.size (.cells #[.int .i64 head] 3))
  have HS4 := hid (HS3.out.alloc (.cells #[.int .i64 head] 3))
  have HP4 := hid (HP3.out.alloc (.cells #[.int .i64 head] 3))
  have HO4 := hid (HO3.out.alloc (.cells #[.int .i64 head] 3))
  have HRs := hid (show Rd (w3.alloc (.cells #[.int .i64 head] 3)) (.slice (some ⟨w3.heap.size, 0, none⟩) 1 1) (natI [head]) from Rd.of_own (own_lit w3 [(head : Int)] #[.int .i64 head] rfl (by simp) 1 rfl))
  have hn1 : g.length ≤ 1000 := by omega
  have hst : ∀ q ∈ [head], q < g.length := fun q hq => by
    obtain rfl : q = head := by simpa using hq
    exact hh
  have HSt := hid hst
  go_wp2_with fail
  have hrc := reached_c (L := predP (adj g) head) (N := g.length) (F := 86) (rs := #[]) (cs := #[.pointer (some ⟨w.heap.size, 0, none⟩), .pointer (some ⟨w2.heap.size, 0, none⟩)]) [head] (.slice (some ⟨w3.heap.size, 0, none⟩) 1 1) (w3.alloc (.cells #[.int .i64 head] 3)) (lds_loop (HSd.out.on HB4.out) HS4.out HP4.out HO4.out) (gd_pred (adj_bd HOk.out) head).bd hn1 HSt.out (by simp) HRs.out (fun k hk => by cases hk; simp)
  refine hrc.mono ?_
  clear hrc
  rintro e w5 ⟨v5, rfl, hown5, hb5⟩
  have HB5 := hid (HB4.out.trans (hb5.mono HB4.out.size))
  have hlf := left_facts (gd_pred (adj_bd HOk.out) head) [head] HSt.out
  have hln := nodup_le g.length _ hlf.nd hlf.lt
  have hso := sorted_trues (List.Perm.refl (natI (Gp.leftOf (predP (adj g) head) [head] []))) hlf.nd hlf.lt
  obtain ⟨xs, hxs⟩ : ∃ xs, natI (Gp.leftOf (predP (adj g) head) [head] []) = xs := ⟨_, rfl⟩
  have hxl : xs.length ≤ 30 := by rw [← hxs, natI_len]; omega
  rw [hxs] at hown5 hso
  have HSo := hid (show sortI xs = loopP (adj g) g.length head from hso)
  have HO5 := hid hown5
  have hz4 := HB4.out.size
  obtain ⟨s5, c5, rfl⟩ := own_slice hown5
  obtain ⟨W4, hW4⟩ : ∃ W4, (w3.alloc (.cells #[.int .i64 head] 3)).heap.size = W4 := ⟨_, rfl⟩
  rw [hW4] at HO5 hz4
  clear hown5 hb5 hlf hln hso hxs hW4
  go_wp2_with fail
  refine (sort_c W4 xs _ w5 HO5.out (by omega)).mono ?_
  rintro e w6 ⟨rfl, hown6, ho6⟩
  rw [HSo.out] at hown6
  have HO6 := hid (own_mono hown6 hz4)
  have HB6 := hid (HB5.out.trans (ho6.below HB5.out.size (fun k hk => by have := (HO5.out.lt k hk).1; omega)))
  have HLe := hid (show (loopP (adj g) g.length head).length = xs.length by rw [← HSo.out]; exact sortI_len xs)
  clear hown6 ho6
  go_wp2_with fail
  go_ret
  exact ⟨_, rfl, HO6.out, HB6.out⟩
noncomputable def loopS (g : List (List Int)) (head : Int) : List Int := if okG g = true then (if head ∈ headsP (adj g) g.length then loopP (adj g) g.length head.toNat else []) else []
theorem loopS_len (g : List (List Int)) (head : Int) : (loopS g head).length ≤ 30 := by
  unfold loopS
  split
  · rename_i h
    have := okG_len h
    split
    · have := truesL_len (fun q => decide (q ∈ Gp.leftOf (predP (adj g) head.toNat) [head.toNat] [])) g.length
      show (truesL _ _).length ≤ 30
      omega
    · simp
  · simp
theorem heads_nat {L : Nat → List Nat} {N : Nat} {x : Int} (h : x ∈ headsP L N) : ∃ p : Nat, x = p ∧ p < N ∧ p ∈ (backsP L).map Prod.snd := by
  unfold headsP truesL at h
  obtain ⟨p, hp, rfl⟩ := List.mem_map.1 h
  obtain ⟨h1, h2⟩ := List.mem_filter.1 hp
  exact ⟨p, rfl, List.mem_range.1 h1, of_decide_eq_true h2⟩
set_option maxRecDepth 100000 in
set_option maxHeartbeats 2000000 in
theorem loopOf_c (g : List (List Int)) (x : Int) (v : Value) (B : Nat) (w : World) (h : GAt B w v g) (hs : Sz g) :
    Calls Try.prog 34 #[v, .int .i64 x] w (WaysPost (loopS g x) w) := by
  obtain ⟨sg, cg, rfl⟩ := h.slice
  have HG := hid h
  have HS := hid hs
  obtain ⟨os, hos⟩ : ∃ os, loopS g x = os := ⟨_, rfl⟩
  have HOs := hid hos
  rw [hos]
  clear h hs hos
  go_enter Try.func34, Try.ntmps34
  go_wp2_with fail
  refine (searchedOf_c g _ B w HG.out HS.out).mono ?_
  rintro e w1 ⟨hb1, h⟩
  have HB1 := hid hb1
  rcases h with ⟨hok, rfl⟩ | ⟨hok, vo, rfl, hown⟩
  · have HO := hid (show os = [] by rw [← HOs.out, loopS, hok]; rfl)
    clear hok hb1
    go_wp2_with fail
    go_ret
    exact ⟨_, rfl, by rw [HO.out]; exact World.ownsRow_nil _ _ _ _, HB1.out.alloc HB1.out.size _⟩
  · have HO := hid (show (if x ∈ headsP (adj g) g.length then loopP (adj g) g.length x.toNat else []) = os by rw [← HOs.out, loopS, hok]; rfl)
    have HSd := hid (sd_of hok HG.out hb1 hown)
    obtain ⟨so, co, rfl⟩ := own_slice hown
    have HB2 := hid (HB1.out.alloc HB1.out.size (.cells #[.slice sg g.length cg, .slice so (natI (orderP (adj g))).length co] 48))
    have HSd2 := hid (HSd.out.on ((Below.refl w1.heap.size w1).alloc (Nat.le_refl _) (.cells #[.slice sg g.length cg, .slice so (natI (orderP (adj g))).length co] 48)))
    have HR2 := hid (Row.new w1 48 #[.slice sg g.length cg, .slice so (natI (orderP (adj g))).length co])
    have hgl := okG_len hok
    have hhl := headsP_len (L := adj g) g.length
    clear hok hb1 hown
    go_wp2_with fail
    refine (heads_c g _ _ _ HSd2.out).mono ?_
    rintro e w2 ⟨v2, rfl, hown2, hb2⟩
    have HO2 := hid (Rd.of_own hown2)
    have HB3 := hid (HB2.out.trans (hb2.mono HB2.out.size))
    have HSd3 := hid (HSd2.out.on hb2)
    have hr3 := HR2.out.on hb2
    have s0 := hr3.cell 0
    have s1 := hr3.cell 1
    simp at s0 s1
    obtain ⟨hl, hhl9⟩ : ∃ hl, headsP (adj g) g.length = hl := ⟨_, rfl⟩
    have HHl := hid hhl9
    rw [hhl9] at HO2 hown2 hhl
    obtain ⟨s2, c2, rfl⟩ := own_slice hown2
    clear hown2 hb2 hhl9 hr3
    go_wp2_with fail
    refine (contains_c hl x _ w2 HO2.out (by omega)).mono ?_
    rintro e w3 ⟨rfl, rfl⟩
    by_cases hx : x ∈ hl
    · rw [decide_eq_true hx]
      obtain ⟨p, rfl, hpN, _⟩ := heads_nat (show x ∈ headsP (adj g) g.length by rw [HHl.out]; exact hx)
      have HE := hid (show loopP (adj g) g.length p = os by rw [← HO.out, if_pos (by rw [HHl.out]; exact hx)]; rfl)
      clear hx
      go_wp2_with fail
      refine (loop_c g p _ _ w3 HSd3.out hpN).mono ?_
      rintro e w4 ⟨v4, rfl, hown4, hb4⟩
      rw [HE.out] at hown4
      have HO4 := hid (own_mono hown4 HB3.out.size)
      have HB4 := hid (HB3.out.trans (hb4.mono HB3.out.size))
      obtain ⟨s4, c4, rfl⟩ := own_slice hown4
      clear hown4 hb4
      go_wp2_with fail
      go_ret
      exact ⟨_, rfl, HO4.out, HB4.out⟩
    · rw [decide_eq_false hx]
      have HE := hid (show os = [] by rw [← HO.out, if_neg (by rw [HHl.out]; exact hx)])
      clear hx
      go_wp2_with fail
      go_ret
      exact ⟨_, rfl, by rw [HE.out]; exact World.ownsRow_nil _ _ _ _, HB3.out⟩
end Go.Proofs.Ytbbhbjdpdhbjlaa.Ge
