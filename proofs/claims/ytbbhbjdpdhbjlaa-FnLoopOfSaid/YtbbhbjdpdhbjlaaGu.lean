/- The heads of a graph, and whether it is reducible: the model. -/
import Derived.Test.YtbbhbjdpdhbjlaaGv
import Derived.Test.YtbbhbjdpdhbjlaaGw
set_option linter.unusedSimpArgs false
set_option linter.unusedVariables false
namespace Go.Proofs.Ytbbhbjdpdhbjlaa.Ge
open Go.RowKit Pl Ft Mm In Gp

theorem mem_take_idx {l : List Int} {t : Int} (n : Nat) (h : t ∈ l) : t ∈ l.take n ↔ l.idxOf t < n := by
  have e : l.idxOf t = (l.take n ++ l.drop n).idxOf t := by rw [List.take_append_drop]
  constructor
  · intro ht
    rw [e, List.idxOf_append, if_pos ht]
    have := List.idxOf_lt_length_of_mem ht
    rw [List.length_take] at this
    omega
  · intro hi
    apply Classical.byContradiction
    intro hn
    rw [e, List.idxOf_append, if_neg hn] at hi
    have hm : t ∈ l.drop n := by
      have h2 : t ∈ l.take n ++ l.drop n := by rw [List.take_append_drop]; exact h
      rcases List.mem_append.1 h2 with h3 | h3
      · exact absurd h3 hn
      · exact h3
    have hl : n < l.length := by
      apply Classical.byContradiction
      intro hc
      rw [List.drop_of_length_le (by omega)] at hm
      cases hm
    rw [List.length_take] at hi
    omega
theorem place_le {l : List Nat} {t k : Nat} (h : t ∈ l) : decide (placeP (natI l) t ≤ (k : Int)) = decide (t ∈ l.take (k + 1)) := by
  unfold placeP
  rw [if_pos (mem_natI'.2 h)]
  apply decide_eq_decide.2
  have h1 := mem_take_idx (k + 1) (mem_natI'.2 h)
  rw [natI_take, mem_natI'] at h1
  rw [h1]
  omega
/-- What a node in order leads to is reached. -/
theorem order_step {L : Nat → List Nat} {N p t : Nat} (hL : Gd L N) (hp : p ∈ orderP L) (ht : t ∈ L p) : t ∈ orderP L := (mem_order hL t).2 (.step p t ((mem_order hL p).1 hp) ht (by simp))
theorem backs_snd (L : Nat → List Nat) (od : List Nat) (k p : Nat) (h : od.getD k 0 = p) : (backsTo L od (k + 1)).map Prod.snd = (backsTo L od k).map Prod.snd ++ (L p).filter fun t => decide (t ∈ od.take (k + 1)) := by
  rw [backsTo_succ, List.map_append]
  congr 1
  unfold backsAt
  rw [h, List.map_map]
  exact List.map_id' _
theorem filt_snoc (f : Nat → Bool) (l : List Nat) (j t : Nat) (h : l.take (j + 1) = l.take j ++ [t]) : (l.take (j + 1)).filter f = (l.take j).filter f ++ if f t then [t] else [] := by
  rw [h, List.filter_append]
  congr 1
  cases hf : f t <;> simp [hf]
set_option maxRecDepth 100000 in
set_option maxHeartbeats 4000000 in
theorem sHeads_c (g : List (List Int)) (B : Nat) (vg : Value) (w : World) (hok : okG g = true) (hg : GAt B w vg g) :
    Calls Try.prog 60 #[vg] w (WaysPost (headsP (adj g) g.length) w) := by
  obtain ⟨sg, cg, rfl⟩ := hg.slice
  have HG := hid hg
  have HOk := hid hok
  have hlen := okG_len hok
  obtain ⟨i0, hi, hz0, hz1, hz2⟩ := info_parts info_bool
  have H0 := hid hz0
  have H1 := hid hz1
  have H2 := hid hz2
  have HI := hid hi
  clear hz0 hz1 hz2 hi hg hok
  go_enter Try.func60, Try.ntmps60
  go_wp2_with fail
  refine (order_c g B _ w HOk.out HG.out).mono ?_
  rintro e w1 ⟨v1, rfl, hown1, hb1⟩
  have HB1 := hid hb1
  obtain ⟨od, hod⟩ : ∃ od, natI (orderP (adj g)) = od := ⟨_, rfl⟩
  have hodl : od.length ≤ 30 := by have := order_len (adj_bd HOk.out); rw [← hod, natI_len]; omega
  rw [hod] at hown1
  have HOd := hid hod
  have HR1 := hid (Rd.of_own hown1)
  have HK1 := hid (fun k hk => (hown1.lt k hk).2)
  obtain ⟨so, co, rfl⟩ := own_slice hown1
  have hz1 := HB1.out.size
  clear hown1 hb1 hod
  go_upto_region 3 with (refine wpList_make_full _ rfl _ _ 57 rfl w1.heap.size 4 i0 (.bool false) 1 Try.underlying57 HI.out H0.out H1.out .i64 .i64 _ _ g.length rfl rfl rfl rfl (by rw [H2.out]; omega) (by simp only [maxLen]; omega) (Nat.le_refl _) ?_; intro w2 hown2 hg2)
  rw [made_bools] at hown2
  obtain ⟨g0, c0, he0, hg0, hbat⟩ := BAt.of_own (f := fun _ => false) hown2 (by omega)
  simp only [Value.slice.injEq, Option.some.injEq, Addr.mk.injEq, true_and, and_true] at he0
  obtain ⟨rfl, rfl⟩ := he0
  have HB2 := hid ((Below.refl w1.heap.size w1).grown hg2 (Nat.le_refl _) (by simp))
  have HT2 := hid hbat
  obtain ⟨gb, hgb⟩ : ∃ gb, w1.heap.size = gb := ⟨_, rfl⟩
  rw [hgb] at HT2 HK1 hz1 HB2 ⊢
  have HGb := hid hgb
  clear hown2 hg2 hbat hg0 hgb
  go_wp2_with fail
  go_loopw [5] (fun y wr => ∃ k : Nat, y = .int .i64 k ∧ k ≤ od.length ∧ BAt wr gb g.length (fun q => decide (q ∈ (backsTo (adj g) (orderP (adj g)) k).map Prod.snd)) ∧ Below gb w1 wr) (fun y _ => od.length - (intOf y).toNat)
  case atStart => exact ⟨0, rfl, by omega, by simpa [backsTo] using HT2.out, HB2.out⟩
  case round =>
    obtain ⟨k, rfl, hk, hbt, hbel⟩ := hrel
    have HT := hid hbt
    have HBe := hid hbel
    have HRo := hid (Rd.below HR1.out HK1.out hbel)
    have HGr := hid ((HG.out.on HB1.out).below (hbel.mono (Nat.le_trans HG.out.le hz1)))
    clear hbt hbel
    by_cases hlt : k < od.length
    case neg =>
      obtain rfl : k = od.length := by omega
      go_wp2_with fail
      refine (trues_c g.length gb g.length _ wr HT.out (by omega)).mono ?_
      rintro e w3 ⟨v3, rfl, hown3, hb3⟩
      have hhe : truesL (fun q => decide (q ∈ (backsTo (adj g) (orderP (adj g)) od.length).map Prod.snd)) g.length = headsP (adj g) g.length := by
        unfold headsP backsP
        rw [← HOd.out, natI_len]
      rw [hhe] at hown3
      have HBr := HB1.out.trans (HBe.out.mono hz1)
      have HO3 := hid (own_mono hown3 HBr.size)
      have HB3 := hid (HBr.trans (hb3.mono HBr.size))
      obtain ⟨s3, c3, rfl⟩ := own_slice hown3
      clear hown3 hb3 hhe
      go_wp2_with fail
      go_ret
      exact ⟨_, rfl, HO3.out, HB3.out⟩
    have hko : k < (orderP (adj g)).length := by have h := HOd.out; rw [← h, natI_len] at hlt; exact hlt
    have hpe : od.getD k 0 = ((orderP (adj g)).getD k 0 : Nat) := by rw [← HOd.out, natI_get _ _ hko]
    have hpm : (orderP (adj g)).getD k 0 ∈ orderP (adj g) := by simp [hko]
    obtain ⟨p, hpp⟩ : ∃ p, (orderP (adj g)).getD k 0 = p := ⟨_, rfl⟩
    have HP := hid hpp
    rw [hpp] at hpe hpm
    have hpN := order_lt (adj_bd HOk.out) p hpm
    have HPm := hid hpm
    have HAn := hid (adj_nat HOk.out hpN)
    have hll := (okG_at HOk.out hpN).1
    obtain ⟨l, hl9⟩ : ∃ l, g.getD p [] = l := ⟨_, rfl⟩
    have HL9 := hid hl9
    rw [hl9] at HAn hll
    have HAl := hid (show (adj g p).length = l.length by rw [← HAn.out, natI_len])
    clear hpm hpp hl9
    go_wp2_with fail
    go_loopw [6] (fun y wx => ∃ j : Nat, y = .int .i64 j ∧ j ≤ l.length ∧ BAt wx gb g.length (fun q => decide (q ∈ (backsTo (adj g) (orderP (adj g)) k).map Prod.snd ++ ((adj g p).take j).filter fun t => decide (t ∈ (orderP (adj g)).take (k + 1)))) ∧ Below gb w1 wx) (fun y _ => l.length - (intOf y).toNat)
    case atStart => exact ⟨0, rfl, by omega, by rw [List.take_zero, List.filter_nil, List.append_nil]; exact HT.out, HBe.out⟩
    case round =>
      obtain ⟨j, rfl, hj, hbt, hbel⟩ := hrel
      have HTj := hid hbt
      have HBj := hid hbel
      have hRo := Rd.below HR1.out HK1.out hbel
      have HRo := hid hRo
      have hGr := (HG.out.on HB1.out).below (hbel.mono (Nat.le_trans HG.out.le hz1))
      obtain ⟨a9, c9, e9, h9⟩ := hRo
      rcases h9 with h9 | ⟨b2, o2, rfl, hb2, hc2⟩
      · rw [h9] at hlt; simp at hlt
      simp only [Value.slice.injEq, true_and, and_true] at e9
      obtain ⟨rfl, rfl⟩ := e9
      have q1 := hc2 k hlt
      rw [hpe] at q1
      obtain ⟨b, o, cap, u, su, cu, hve, rfl, q2, hru, hku, hbB⟩ := hGr.get hpN
      simp only [Value.slice.injEq, true_and] at hve
      obtain ⟨rfl, rfl⟩ := hve
      rw [HL9.out] at q2 hru
      clear hbt hbel hc2 hGr hku hbB
      by_cases hjt : j < l.length
      · have hja : j < (adj g p).length := by rw [HAl.out]; exact hjt
        have hte : l.getD j 0 = ((adj g p).getD j 0 : Nat) := by rw [← HAn.out, natI_get _ _ hja]
        have htm : (adj g p).getD j 0 ∈ adj g p := by simp [hja]
        have HTs := hid (take_snoc (adj g p) j hja)
        obtain ⟨t, htt⟩ : ∃ t, (adj g p).getD j 0 = t := ⟨_, rfl⟩
        rw [htt] at hte HTs htm
        have htN := (adj_bd HOk.out).bd p hpN t htm
        have HPl := hid (place_le (k := k) (order_step (adj_bd HOk.out) HPm.out htm))
        rw [HOd.out] at HPl
        obtain ⟨z, hz⟩ : ∃ z, placeP od t = z := ⟨_, rfl⟩
        have HZ := hid hz
        rw [hz] at HPl
        obtain ⟨a9, c9, e9, h9⟩ := hru
        rcases h9 with h9 | ⟨b3, o3, rfl, hb3, hc3⟩
        · rw [h9] at hjt; simp at hjt
        simp only [Value.slice.injEq, true_and, and_true] at e9
        obtain ⟨rfl, rfl⟩ := e9
        have q3 := hc3 j hjt
        rw [hte] at q3
        have t0 := HTj.out.cell htN
        have tf : wr.frozen? ⟨gb, t, none⟩ = false := by obtain ⟨cur, hcr, _⟩ := HTj.out; exact hcr.free t
        have HF := hid (filt_snoc (fun t => decide (t ∈ (orderP (adj g)).take (k + 1))) (adj g p) j t HTs.out)
        clear hc3 hte htm htt hz
        go_wp2_with fail
        refine (placeOf_c od t _ _ HRo.out (by omega)).mono ?_
        rintro e w3 ⟨rfl, rfl⟩
        rw [HZ.out]
        by_cases hzk : z ≤ (k : Int)
        · have HM := hid (show decide (t ∈ (orderP (adj g)).take (k + 1)) = true by rw [← HPl.out]; exact decide_eq_true hzk)
          go_upto_region 8 with fail
          have ho8 : Only (fun x => x = gb) w3 (w3.setCell ⟨gb, t, none⟩ (.bool true)) := (Only.refl (fun x => x = gb) w3).setCell (g := gb) rfl t _
          have ht8 := HTj.out.set htN
          rw [mem_snoc] at ht8
          generalize w3.setCell ⟨gb, t, none⟩ (.bool true) = w8 at ho8 ht8 ⊢
          have HT8 := hid ht8
          have HB8 := hid (HBj.out.trans (ho8.below (by have := HBj.out.size; have := HGb.out; omega) (fun x hx => by omega)))
          clear t0 tf q1 q2 q3 ho8 ht8
          go_wp2_with fail
          go_roundw
          case rel =>
            refine ⟨j + 1, by go_num, by omega, ?_, HB8.out⟩
            rw [HF.out, HM.out, if_pos rfl, ← List.append_assoc]
            exact HT8.out
          case measure => simp [intOf]; omega
        · have HM := hid (show decide (t ∈ (orderP (adj g)).take (k + 1)) = false by rw [← HPl.out]; exact decide_eq_false hzk)
          clear t0 tf
          go_wp2_with fail
          go_roundw
          case rel =>
            refine ⟨j + 1, by go_num, by omega, ?_, HBj.out⟩
            rw [HF.out, HM.out, if_neg (by decide), List.append_nil]
            exact HTj.out
          case measure => simp [intOf]; omega
      · obtain rfl : j = l.length := by omega
        go_wp2_with fail
        go_roundw
        case rel =>
          refine ⟨k + 1, by go_num, by omega, ?_, HBj.out⟩
          have h1 : (adj g p).take l.length = adj g p := List.take_of_length_le (by rw [HAl.out]; exact Nat.le_refl _)
          have h2 := HTj.out
          rw [h1] at h2
          rw [backs_snd _ _ _ p HP.out]
          exact h2
        case measure => simp [intOf]; omega
set_option maxRecDepth 100000 in
set_option maxHeartbeats 4000000 in
theorem sRed_c (g : List (List Int)) (B : Nat) (vg : Value) (w : World) (hok : okG g = true) (hg : GAt B w vg g) :
    Calls Try.prog 67 #[vg] w fun e w' => e = .returned (.bool (redP (adj g))) ∧ Below w.heap.size w w' := by
  obtain ⟨sg, cg, rfl⟩ := hg.slice
  have HG := hid hg
  have HOk := hid hok
  have hlen := okG_len hok
  obtain ⟨r, hr⟩ : ∃ r, redP (adj g) = r := ⟨_, rfl⟩
  have HRr := hid hr
  rw [hr]
  clear hg hok hr
  go_enter Try.func67, Try.ntmps67
  go_wp2_with fail
  refine (order_c g B _ w HOk.out HG.out).mono ?_
  rintro e w1 ⟨v1, rfl, hown1, hb1⟩
  have HB1 := hid hb1
  obtain ⟨od, hod⟩ : ∃ od, natI (orderP (adj g)) = od := ⟨_, rfl⟩
  have hodl : od.length ≤ 30 := by have := order_len (adj_bd HOk.out); rw [← hod, natI_len]; omega
  rw [hod] at hown1
  have HOd := hid hod
  have HR1 := hid (Rd.of_own hown1)
  have HK1 := hid (fun k hk => (hown1.lt k hk).2)
  obtain ⟨so, co, rfl⟩ := own_slice hown1
  have hz1 := HB1.out.size
  clear hown1 hb1 hod
  go_wp2_with fail
  refine (sDoms_c g B _ w1 HOk.out (HG.out.on HB1.out)).mono ?_
  rintro e w2 ⟨v2, rfl, hown2, hb2⟩
  have HB2 := hid hb2
  have HD2 := hid (Rd.of_own hown2)
  have hz2 := hb2.size
  obtain ⟨s2, c2, rfl⟩ := own_slice hown2
  clear hown2 hb2
  go_wp2_with fail
  go_loop [5] (fun y => ∃ k : Nat, y = .int .i64 k ∧ k ≤ od.length ∧ (backsTo (adj g) (orderP (adj g)) k).all (redE (adj g)) = true) (fun y => od.length - (intOf y).toNat)
  case atStart => exact ⟨0, rfl, by omega, by simp [backsTo]⟩
  case round =>
    obtain ⟨k, rfl, hk, hall⟩ := hrel
    have HAll := hid hall
    have HRo := hid (HR1.out.on HB2.out)
    have HGr := hid (HG.out.on (HB1.out.trans (HB2.out.mono hz1)))
    clear hall
    by_cases hlt : k < od.length
    case neg =>
      obtain rfl : k = od.length := by omega
      have HT := hid (show r = true by
        rw [← HRr.out]
        have h := HAll.out
        rw [← HOd.out, natI_len] at h
        exact h)
      go_wp2_with fail
      go_ret
      exact ⟨bool_eq HT.out.symm, HB1.out.trans (HB2.out.mono hz1)⟩
    have hko : k < (orderP (adj g)).length := by have h := HOd.out; rw [← h, natI_len] at hlt; exact hlt
    have hpe : od.getD k 0 = ((orderP (adj g)).getD k 0 : Nat) := by rw [← HOd.out, natI_get _ _ hko]
    have hpm : (orderP (adj g)).getD k 0 ∈ orderP (adj g) := by simp [hko]
    obtain ⟨p, hpp⟩ : ∃ p, (orderP (adj g)).getD k 0 = p := ⟨_, rfl⟩
    have HP := hid hpp
    rw [hpp] at hpe hpm
    have hpN := order_lt (adj_bd HOk.out) p hpm
    have HPm := hid hpm
    have HAn := hid (adj_nat HOk.out hpN)
    have hll := (okG_at HOk.out hpN).1
    obtain ⟨l, hl9⟩ : ∃ l, g.getD p [] = l := ⟨_, rfl⟩
    have HL9 := hid hl9
    rw [hl9] at HAn hll
    have HAl := hid (show (adj g p).length = l.length by rw [← HAn.out, natI_len])
    clear hpm hpp hl9
    go_wp2_with fail
    go_loop [6] (fun y => ∃ j : Nat, y = .int .i64 j ∧ j ≤ l.length ∧ ∀ t ∈ (adj g p).take j, t ∈ (orderP (adj g)).take (k + 1) → redE (adj g) (p, t) = true) (fun y => l.length - (intOf y).toNat)
    case atStart => exact ⟨0, rfl, by omega, fun t ht => by simp at ht⟩
    case round =>
      obtain ⟨j, rfl, hj, hall⟩ := hrel
      have HAj := hid hall
      have hRo := HRo.out
      have hGr := HGr.out
      obtain ⟨a9, c9, e9, h9⟩ := hRo
      rcases h9 with h9 | ⟨b2, o2, rfl, hb2, hc2⟩
      · rw [h9] at hlt; simp at hlt
      simp only [Value.slice.injEq, true_and, and_true] at e9
      obtain ⟨rfl, rfl⟩ := e9
      have q1 := hc2 k hlt
      rw [hpe] at q1
      obtain ⟨b, o, cap, u, su, cu, hve, rfl, q2, hru, hku, hbB⟩ := hGr.get hpN
      simp only [Value.slice.injEq, true_and] at hve
      obtain ⟨rfl, rfl⟩ := hve
      rw [HL9.out] at q2 hru
      clear hall hc2 hGr hku hbB
      by_cases hjt : j < l.length
      · have hja : j < (adj g p).length := by rw [HAl.out]; exact hjt
        have hte : l.getD j 0 = ((adj g p).getD j 0 : Nat) := by rw [← HAn.out, natI_get _ _ hja]
        have htm : (adj g p).getD j 0 ∈ adj g p := by simp [hja]
        have HTs := hid (take_snoc (adj g p) j hja)
        obtain ⟨t, htt⟩ : ∃ t, (adj g p).getD j 0 = t := ⟨_, rfl⟩
        rw [htt] at hte HTs htm
        have htN := (adj_bd HOk.out).bd p hpN t htm
        have HPl := hid (place_le (k := k) (order_step (adj_bd HOk.out) HPm.out htm))
        rw [HOd.out] at HPl
        obtain ⟨z, hz⟩ : ∃ z, placeP od t = z := ⟨_, rfl⟩
        have HZ := hid hz
        rw [hz] at HPl
        obtain ⟨a9, c9, e9, h9⟩ := hru
        rcases h9 with h9 | ⟨b3, o3, rfl, hb3, hc3⟩
        · rw [h9] at hjt; simp at hjt
        simp only [Value.slice.injEq, true_and, and_true] at e9
        obtain ⟨rfl, rfl⟩ := e9
        have q3 := hc3 j hjt
        rw [hte] at q3
        have HTm := hid htm
        clear hc3 hte htm htt hz
        go_wp2_with fail
        refine (placeOf_c od t _ _ HRo.out (by omega)).mono ?_
        rintro e w3 ⟨rfl, rfl⟩
        rw [HZ.out]
        by_cases hzk : z ≤ (k : Int)
        · have HM := hid (show t ∈ (orderP (adj g)).take (k + 1) from by have h := HPl.out; rw [decide_eq_true hzk] at h; exact of_decide_eq_true h.symm)
          go_wp2_with fail
          refine (over_c (adj_bd HOk.out) (by omega) t p _ w3 HD2.out ((mem_order (adj_bd HOk.out) t).1 (order_step (adj_bd HOk.out) HPm.out HTm.out)) ((mem_order (adj_bd HOk.out) p).1 HPm.out)).mono ?_
          rintro e w4 ⟨rfl, rfl⟩
          rw [show decide (p ∈ belowP (adj g) (t : Int)) = redE (adj g) (p, t) from rfl]
          cases hre : redE (adj g) (p, t)
          · have HF := hid (show r = false by
              rw [← HRr.out]
              unfold redP
              rw [List.all_eq_false]
              exact ⟨(p, t), mem_backsTo.2 ⟨k, by have h := HOd.out; rw [← h, natI_len] at hlt; exact hlt, HP.out.symm, by rw [HP.out]; exact HTm.out, HM.out⟩, by rw [hre]; decide⟩)
            clear hre q1 q2 q3
            go_wp2_with fail
            go_ret
            exact ⟨bool_eq HF.out.symm, HB1.out.trans (HB2.out.mono hz1)⟩
          · have HF := hid hre
            clear hre
            go_wp2_with fail
            go_round
            case rel =>
              refine ⟨j + 1, by go_num, by omega, fun t2 ht2 hm2 => ?_⟩
              rw [HTs.out] at ht2
              rcases List.mem_append.1 ht2 with h | h
              · exact HAj.out t2 h hm2
              · obtain rfl : t2 = t := by simpa using h
                exact HF.out
            case measure => simp [intOf]; omega
        · have HM := hid (show t ∉ (orderP (adj g)).take (k + 1) from by have h := HPl.out; rw [decide_eq_false hzk] at h; exact of_decide_eq_false h.symm)
          go_wp2_with fail
          go_round
          case rel =>
            refine ⟨j + 1, by go_num, by omega, fun t2 ht2 hm2 => ?_⟩
            rw [HTs.out] at ht2
            rcases List.mem_append.1 ht2 with h | h
            · exact HAj.out t2 h hm2
            · obtain rfl : t2 = t := by simpa using h
              exact absurd hm2 HM.out
          case measure => simp [intOf]; omega
      · obtain rfl : j = l.length := by omega
        go_wp2_with fail
        go_round
        case rel =>
          refine ⟨k + 1, by go_num, by omega, ?_⟩
          rw [backsTo_succ, List.all_append, HAll.out, Bool.true_and]
          unfold backsAt
          rw [HP.out, List.all_map, List.all_eq_true]
          intro t ht
          obtain ⟨h1, h2⟩ := List.mem_filter.1 ht
          have h3 : (adj g p).take l.length = adj g p := List.take_of_length_le (by rw [HAl.out]; exact Nat.le_refl _)
          exact HAj.out t (by rw [h3]; exact h1) (of_decide_eq_true h2)
        case measure => simp [intOf]; omega
theorem sHeadsOf_c (g : List (List Int)) (v : Value) (B : Nat) (w : World) (h : GAt B w v g) (hs : Sz g) :
    Calls Try.prog 32 #[v] w (WaysPost (headsS g) w) := by
  obtain ⟨sg, cg, rfl⟩ := h.slice
  have HG := hid h
  have HS := hid hs
  obtain ⟨os, hos⟩ : ∃ os, headsS g = os := ⟨_, rfl⟩
  have HOs := hid hos
  rw [hos]
  clear h hs hos
  go_enter Try.func32, Try.ntmps32
  go_wp2_with fail
  refine (validGraph_c g _ w HG.out.grd HS.out).mono ?_
  rintro e w1 ⟨rfl, rfl⟩
  cases hok : okG g
  · have HO := hid (show os = [] by rw [← HOs.out, headsS, hok]; rfl)
    clear hok
    go_wp2_with fail
    go_ret
    exact ⟨_, rfl, by rw [HO.out]; exact World.ownsRow_nil _ _ _ _, Below.refl _ _⟩
  · have HO := hid (show headsP (adj g) g.length = os by rw [← HOs.out, headsS, hok]; rfl)
    have HOk := hid hok
    clear hok
    go_wp2_with fail
    refine (sHeads_c g B _ w1 HOk.out HG.out).mono ?_
    rintro e w2 ⟨v2, rfl, hown, hb2⟩
    rw [HO.out] at hown
    have HOw := hid hown
    have HB2 := hid hb2
    obtain ⟨s1, c1, rfl⟩ := own_slice hown
    clear hown hb2
    go_wp2_with fail
    go_ret
    exact ⟨_, rfl, HOw.out, HB2.out⟩
theorem sReducible_c (g : List (List Int)) (v : Value) (B : Nat) (w : World) (h : GAt B w v g) (hs : Sz g) :
    Calls Try.prog 44 #[v] w fun e w' => e = .returned (.bool (redS g)) ∧ Below w.heap.size w w' := by
  obtain ⟨sg, cg, rfl⟩ := h.slice
  have HG := hid h
  have HS := hid hs
  obtain ⟨r, hr⟩ : ∃ r, redS g = r := ⟨_, rfl⟩
  have HR := hid hr
  rw [hr]
  clear h hs hr
  go_enter Try.func44, Try.ntmps44
  go_wp2_with fail
  refine (validGraph_c g _ w HG.out.grd HS.out).mono ?_
  rintro e w1 ⟨rfl, rfl⟩
  cases hok : okG g
  · have HO := hid (show r = false by rw [← HR.out, redS, hok]; rfl)
    clear hok
    go_wp2_with fail
    go_ret
    exact ⟨bool_eq HO.out.symm, Below.refl _ _⟩
  · have HO := hid (show redP (adj g) = r by rw [← HR.out, redS, hok]; rfl)
    have HOk := hid hok
    clear hok
    go_wp2_with fail
    refine (sRed_c g B _ w1 HOk.out HG.out).mono ?_
    rintro e w2 ⟨rfl, hb2⟩
    rw [HO.out]
    have HB2 := hid hb2
    clear hb2
    go_wp2_with fail
    go_ret
    exact ⟨rfl, HB2.out⟩
end Go.Proofs.Ytbbhbjdpdhbjlaa.Ge
