/- The loop of a head in the model, and its LoopOf. -/
import Derived.Test.YtbbhbjdpdhbjlaaGu
import Derived.Test.YtbbhbjdpdhbjlaaGj
set_option linter.unusedSimpArgs false
set_option linter.unusedVariables false
namespace Go.Proofs.Ytbbhbjdpdhbjlaa.Ge
open Go.RowKit Pl Ft Mm In Gp

theorem dm_back {L : Nat → List Nat} {x p q : Nat} (h : Dm L x p) (hne : p ≠ x) (hq : Av L [] [0] q) (hl : p ∈ L q) : Dm L x q := by
  refine ⟨hq, ?_⟩
  by_cases hqx : q = x
  · exact .inl hqx
  · refine .inr fun ha => ?_
    rcases h.2 with h1 | h1
    · exact hne h1
    · exact h1 (.step q p ha hl (by simpa using hne))
/-- What is in the loop of a head. -/
def InLp (L : Nat → List Nat) (head : Nat) : Nat → Prop := Av (predP L head) [] [head]
theorem inLp_below {L : Nat → List Nat} {head p : Nat} (h : InLp L head p) : p = head ∨ p ∈ belowP L (head : Int) := by
  cases h with
  | start q h hn => exact .inl (by simpa using h)
  | step a q _ hq hn => exact .inr (List.mem_filter.1 hq).1
noncomputable def firstF (L : Nat → List Nat) (head : Nat) : Nat → Bool := fun p => decide (head ∈ L p) && decide (p ∈ belowP L (head : Int))
theorem first_in {L : Nat → List Nat} {head p : Nat} (h : firstF L head p = true) : InLp L head p := by
  unfold firstF at h
  rw [Bool.and_eq_true, decide_eq_true_eq, decide_eq_true_eq] at h
  exact .step head p (.start head (by simp) (by simp)) (List.mem_filter.2 ⟨h.2, decide_eq_true h.1⟩) (by simp)
/-- A worklist on its way back from a head. -/
structure WB (L : Nat → List Nat) (head : Nat) (M ahead : List Nat) : Prop where
  ra : ∀ q ∈ ahead, q ∈ orderP L ∧ InLp L head q
  rm : ∀ p ∈ M, InLp L head p
  hd : head ∈ M
  cl : ∀ p ∈ M, p ≠ head → ∀ q ∈ orderP L, p ∈ L q → q ∈ M ∨ q ∈ ahead
  st : ∀ q ∈ orderP L, firstF L head q = true → q ∈ M ∨ q ∈ ahead
  nd : M.Nodup
section
variable {L : Nat → List Nat} {N head : Nat} {M ahead rest : List Nat} {a : Nat}
theorem WB.begin (hL : Gd L N) : WB L head [head] ((orderP L).filter (firstF L head)) where
  ra q hq := ⟨(List.mem_filter.1 hq).1, first_in (List.mem_filter.1 hq).2⟩
  rm p hp := by
    obtain rfl : p = head := by simpa using hp
    exact .start _ (by simp) (by simp)
  hd := by simp
  cl p hp hne := absurd (by simpa using hp) hne
  st q hq hf := .inr (List.mem_filter.2 ⟨hq, hf⟩)
  nd := by simp
theorem WB.again (h : WB L head M (a :: rest)) (ha : a ∈ M) : WB L head M rest where
  ra q hq := h.ra q (by simp [hq])
  rm := h.rm
  hd := h.hd
  cl p hp hne q hq hl := by
    rcases h.cl p hp hne q hq hl with h1 | h1
    · exact .inl h1
    · rcases List.mem_cons.1 h1 with rfl | h2
      · exact .inl ha
      · exact .inr h2
  st q hq hf := by
    rcases h.st q hq hf with h1 | h1
    · exact .inl h1
    · rcases List.mem_cons.1 h1 with rfl | h2
      · exact .inl ha
      · exact .inr h2
  nd := h.nd
theorem WB.meet (hL : Gd L N) (h : WB L head M (a :: rest)) (ha : a ∉ M) : WB L head (M ++ [a]) (rest ++ (orderP L).filter fun q => decide (a ∈ L q)) := by
  have hah : a ≠ head := fun e => ha (e ▸ h.hd)
  have hT := (h.ra a (by simp)).2
  have hbl : a ∈ belowP L (head : Int) := by
    rcases inLp_below hT with h1 | h1
    · exact absurd h1 hah
    · exact h1
  refine ⟨fun q hq => ?_, fun p hp => ?_, by simp [h.hd], fun p hp hne q hq hl => ?_, fun q hq hf => ?_, snoc_nodup h.nd ha⟩
  · rcases List.mem_append.1 hq with h1 | h1
    · exact h.ra q (by simp [h1])
    · obtain ⟨h2, h3⟩ := List.mem_filter.1 h1
      have h3 := of_decide_eq_true h3
      refine ⟨h2, .step a q hT (List.mem_filter.2 ⟨?_, decide_eq_true h3⟩) (by simp)⟩
      exact (below_dm hL head q).2 (dm_back ((below_dm hL head a).1 hbl) hah ((mem_order hL q).1 h2) h3)
  · rcases List.mem_append.1 hp with h1 | h1
    · exact h.rm p h1
    · obtain rfl : p = a := by simpa using h1
      exact hT
  · rcases List.mem_append.1 hp with h1 | h1
    · rcases h.cl p h1 hne q hq hl with h2 | h2
      · exact .inl (by simp [h2])
      · rcases List.mem_cons.1 h2 with rfl | h3
        · exact .inl (by simp)
        · exact .inr (by simp [h3])
    · obtain rfl : p = a := by simpa using h1
      exact .inr (by simp [hq, hl])
  · rcases h.st q hq hf with h2 | h2
    · exact .inl (by simp [h2])
    · rcases List.mem_cons.1 h2 with rfl | h3
      · exact .inl (by simp)
      · exact .inr (by simp [h3])
theorem WB.done (hL : Gd L N) (h : WB L head M []) (q : Nat) : q ∈ M ↔ InLp L head q := by
  refine ⟨h.rm q, fun hq => ?_⟩
  induction hq with
  | start q hq hn =>
    obtain rfl : q = head := by simpa using hq
    exact h.hd
  | step p q hp hq hn ih =>
    obtain ⟨h1, h2⟩ := List.mem_filter.1 hq
    have h2 := of_decide_eq_true h2
    have hqo : q ∈ orderP L := (mem_order hL q).2 ((mem_below hL head q).1 h1).1
    by_cases hph : p = head
    · subst hph
      have := h.st q hqo (by unfold firstF; rw [decide_eq_true h2, decide_eq_true h1]; rfl)
      simpa using this
    · have := h.cl p ih hph q hqo h2
      simpa using this
end
theorem lp_left {L : Nat → List Nat} {N head : Nat} (hL : Gd L N) (hh : head < N) (q : Nat) : q ∈ Gp.leftOf (predP L head) [head] [] ↔ InLp L head q :=
  (left_facts (gd_pred hL head) [head] (fun x hx => by
    obtain rfl : x = head := by simpa using hx
    exact hh)).mem q
theorem filt_snoc' (f : Nat → Bool) (l : List Nat) (j t : Nat) (h : l.take (j + 1) = l.take j ++ [t]) : (l.take (j + 1)).filter f = (l.take j).filter f ++ if f t = true then [t] else [] := by
  rw [h, List.filter_append]
  congr 1
  cases hf : f t <;> simp [hf]
theorem drop_cons (l : List Nat) (k : Nat) (h : k < l.length) : l.drop k = l.getD k 0 :: l.drop (k + 1) := by
  rw [List.drop_eq_getElem_cons h]
  simp [h]
set_option maxRecDepth 100000 in
set_option maxHeartbeats 8000000 in
theorem sLoopOf_c (g : List (List Int)) (x : Int) (v : Value) (B : Nat) (w : World) (h : GAt B w v g) (hs : Sz g) :
    Calls Try.prog 36 #[v, .int .i64 x] w (WaysPost (loopS g x) w) := by
  obtain ⟨sg, cg, rfl⟩ := h.slice
  have HG := hid h
  have HS := hid hs
  obtain ⟨os, hos⟩ : ∃ os, loopS g x = os := ⟨_, rfl⟩
  have HOs := hid hos
  rw [hos]
  obtain ⟨i0, hi, hz0, hz1, hz2⟩ := info_parts info_bool
  have H0 := hid hz0
  have H1 := hid hz1
  have H2 := hid hz2
  have HI := hid hi
  clear hz0 hz1 hz2 hi h hs hos
  go_enter Try.func36, Try.ntmps36
  go_wp2_with fail
  refine (validGraph_c g _ w HG.out.grd HS.out).mono ?_
  rintro e w0 ⟨rfl, rfl⟩
  cases hok : okG g
  · have HO := hid (show os = [] by rw [← HOs.out, loopS, hok]; rfl)
    clear hok
    go_wp2_with fail
    go_ret
    exact ⟨_, rfl, by rw [HO.out]; exact World.ownsRow_nil _ _ _ _, Below.refl _ _⟩
  have HO := hid (show (if x ∈ headsP (adj g) g.length then loopP (adj g) g.length x.toNat else []) = os by rw [← HOs.out, loopS, hok]; rfl)
  have HOk := hid hok
  have hlen := okG_len hok
  clear hok
  go_wp2_with fail
  refine (sHeads_c g B _ w0 HOk.out HG.out).mono ?_
  rintro e w1 ⟨v1, rfl, hown1, hb1⟩
  have HB1 := hid hb1
  have hhl := headsP_len (L := adj g) g.length
  obtain ⟨hl, hhl9⟩ : ∃ hl, headsP (adj g) g.length = hl := ⟨_, rfl⟩
  have HHl := hid hhl9
  rw [hhl9] at hown1 hhl
  have HR1 := hid (Rd.of_own hown1)
  obtain ⟨s1, c1, rfl⟩ := own_slice hown1
  clear hown1 hb1 hhl9
  go_wp2_with fail
  refine (inList_c hl x _ w1 HR1.out (by omega)).mono ?_
  rintro e w2 ⟨rfl, rfl⟩
  by_cases hx : x ∈ hl
  case neg =>
    rw [decide_eq_false hx]
    have HE := hid (show os = [] by rw [← HO.out, if_neg (by rw [HHl.out]; exact hx)])
    clear hx
    go_wp2_with fail
    go_ret
    exact ⟨_, rfl, by rw [HE.out]; exact World.ownsRow_nil _ _ _ _, HB1.out⟩
  rw [decide_eq_true hx]
  obtain ⟨hd, rfl, hhN, hhm⟩ := heads_nat (show x ∈ headsP (adj g) g.length by rw [HHl.out]; exact hx)
  have HE := hid (show loopP (adj g) g.length hd = os by rw [← HO.out, if_pos (by rw [HHl.out]; exact hx)]; rfl)
  have HHr := hid (show Av (adj g) [] [0] hd from (mem_order (adj_bd HOk.out) hd).1 (by
    obtain ⟨e, he, rfl⟩ := List.mem_map.1 hhm
    exact (backs_lt HOk.out he).2.1))
  clear hx hhm
  go_wp2_with fail
  refine (order_c g B _ w2 HOk.out (HG.out.on HB1.out)).mono ?_
  rintro e w3 ⟨v3, rfl, hown3, hb3⟩
  have HB3 := hid (HB1.out.trans (hb3.mono HB1.out.size))
  obtain ⟨od, hod⟩ : ∃ od, natI (orderP (adj g)) = od := ⟨_, rfl⟩
  have hodl : od.length ≤ 30 := by have := order_len (adj_bd HOk.out); rw [← hod, natI_len]; omega
  rw [hod] at hown3
  have HOd := hid hod
  have HR3 := hid (Rd.of_own hown3)
  have HK3 := hid (fun k hk => (hown3.lt k hk).2)
  obtain ⟨so, co, rfl⟩ := own_slice hown3
  have hz3 := HB3.out.size
  clear hown3 hb3 hod
  go_wp2_with fail
  refine (sDoms_c g B _ w3 HOk.out (HG.out.on HB3.out)).mono ?_
  rintro e w4 ⟨v4, rfl, hown4, hb4⟩
  have HB4 := hid (HB3.out.trans (hb4.mono hz3))
  have HD4 := hid (Rd.of_own hown4)
  have HKd := hid (fun k hk => (hown4.lt k hk).2)
  have HR4 := hid (HR3.out.on hb4)
  have HK4 := hid (fun k hk => Nat.lt_of_lt_of_le (HK3.out k hk) hb4.size)
  have hz4 := HB4.out.size
  obtain ⟨s4, c4, rfl⟩ := own_slice hown4
  clear hown4 hb4
  go_upto_region 6 with (refine wpList_make_full _ rfl _ _ 57 rfl w4.heap.size 4 i0 (.bool false) 1 Try.underlying57 HI.out H0.out H1.out .i64 .i64 _ _ g.length rfl rfl rfl rfl (by rw [H2.out]; omega) (by simp only [maxLen]; omega) (Nat.le_refl _) ?_; intro w5 hown5 hg5)
  rw [made_bools] at hown5
  obtain ⟨g0, c0, he0, hg0, hbat⟩ := BAt.of_own (f := fun _ => false) hown5 (by omega)
  simp only [Value.slice.injEq, Option.some.injEq, Addr.mk.injEq, true_and, and_true] at he0
  obtain ⟨rfl, rfl⟩ := he0
  have HB5 := hid ((Below.refl w4.heap.size w4).grown hg5 (Nat.le_refl _) (by simp))
  have HT5 := hid hbat
  have hgl5 := hbat.lt
  obtain ⟨gb, hgb⟩ : ∃ gb, w4.heap.size = gb := ⟨_, rfl⟩
  rw [hgb] at HT5 HK4 HKd hz4 HB5 hgl5 ⊢
  have HGb := hid hgb
  have t0 : w5.cell? ⟨gb, hd, none⟩ = some (.bool false) := HT5.out.cell hhN
  have tf : w5.frozen? ⟨gb, hd, none⟩ = false := by obtain ⟨cur, hcr, _⟩ := HT5.out; exact hcr.free hd
  clear hown5 hg5 hbat hg0 hgb
  go_upto_region 7 with fail
  clear t0 tf
  have ho6 : Only (fun x => x = gb) w5 (w5.setCell ⟨gb, hd, none⟩ (.bool true)) := (Only.refl (fun x => x = gb) w5).setCell (g := gb) rfl hd _
  have ht6 := HT5.out.set hhN
  have e6 : (fun q => (fun _ => false) q || q == hd) = fun q => decide (q ∈ [hd]) := by
    funext q
    rw [Bool.eq_iff_iff]
    simp
  rw [e6] at ht6
  generalize w5.setCell ⟨gb, hd, none⟩ (.bool true) = w6 at ho6 ht6 ⊢
  have HT6 := hid ht6
  have hz6 := ho6.size
  have HB6 := hid (HB5.out.trans (ho6.below (Nat.le_of_lt hgl5) (fun k hk => by omega)))
  clear ho6 ht6 e6
  have HL7 := hid (own_lit w6 [] #[] rfl (by simp) 0 rfl)
  have HB7 := hid (HB6.out.alloc (by omega) (.cells #[] 3))
  have HT7 := hid (HT6.out.on ((Below.refl w6.heap.size w6).alloc (Nat.le_refl _) (.cells #[] 3)))
  obtain ⟨W6, hW6⟩ : ∃ W6, w6.heap.size = W6 := ⟨_, rfl⟩
  rw [hW6] at hz6 HL7
  have hgW : gb < W6 := by omega
  try rw [hW6]
  have HW6 := hid hW6
  clear hW6
  go_wp2_with fail
  go_loopw [8, 9] (fun lv y wr => ∃ (k : Nat) (ln : List Nat), y = .int .i64 k ∧ k ≤ od.length ∧ ln = ((orderP (adj g)).take k).filter (firstF (adj g) hd) ∧ W6 ≤ wr.heap.size ∧ wr.ownsRow W6 3 1 lv (natI ln).length (ints (natI ln)) ∧ BAt wr gb g.length (fun q => decide (q ∈ [hd])) ∧ Below gb w4 wr) (fun _ y _ => od.length - (intOf y).toNat)
  case atStart => exact ⟨0, [], rfl, by omega, by simp, by rw [World.size_alloc, HW6.out]; omega, by rw [HW6.out]; exact HL7.out, HT7.out, HB7.out⟩
  case round =>
    obtain ⟨k, ln, rfl, hk, hln, hzr, hown, hbt, hbel⟩ := hrel
    have HT := hid hbt
    have HBe := hid hbel
    have HLn := hid hln
    have HRo := hid (Rd.below HR4.out HK4.out hbel)
    have HGr := hid ((HG.out.on HB4.out).below (hbel.mono (Nat.le_trans HG.out.le hz4)))
    have HDr := hid (Rd.below HD4.out HKd.out hbel)
    have hlnl : ln.length ≤ 30 := by
      rw [hln]
      have h1 := List.length_filter_le (firstF (adj g) hd) ((orderP (adj g)).take k)
      rw [List.length_take] at h1
      omega
    obtain ⟨xs, hxs⟩ : ∃ xs, natI ln = xs := ⟨_, rfl⟩
    have HXs := hid hxs
    have hxl : xs.length ≤ 30 := by rw [← hxs, natI_len]; exact hlnl
    rw [hxs] at hown
    have HO := hid hown
    obtain ⟨sl, cl, rfl⟩ := own_slice hown
    clear hbt hbel hown hxs hln hlnl
    by_cases hlt : k < od.length
    case neg =>
      obtain rfl : k = od.length := by omega
      have HWb := hid (show WB (adj g) hd [hd] ln from by
        have h1 := HLn.out
        rw [List.take_of_length_le (by have h := HOd.out; rw [← h, natI_len]; exact Nat.le_refl _)] at h1
        rw [h1]
        exact WB.begin (adj_bd HOk.out))
      have hlp2 : ln.length ≤ 30 := by have h := congrArg List.length HXs.out; rw [natI_len] at h; omega
      go_wp2_with fail
      go_loopg [8, 10] 2000 (fun m lv y wr => ∃ (k : Nat) (ln M : List Nat), y = .int .i64 k ∧ k ≤ ln.length ∧ WB (adj g) hd M (ln.drop k) ∧ ln.length ≤ 30 + 30 * M.length ∧ 31 * (30 - M.length) + (ln.length - k) ≤ m ∧ W6 ≤ wr.heap.size ∧ wr.ownsRow W6 3 1 lv (natI ln).length (ints (natI ln)) ∧ BAt wr gb g.length (fun q => decide (q ∈ M)) ∧ Below gb w4 wr)
      case atStart => exact ⟨0, ln, [hd], rfl, by omega, by rw [List.drop_zero]; exact HWb.out, by simp; omega, by simp; omega, hzr, by rw [HXs.out]; exact HO.out, HT.out, HBe.out⟩
      case round =>
        obtain ⟨k, ln, M, rfl, hk, hwb, hll, hm, hzr, hown, hbt, hbel⟩ := hrel
        have HT := hid hbt
        have HBe := hid hbel
        have HWb := hid hwb
        have hML : M.length ≤ 30 := by
          have := nodup_le g.length M hwb.nd (fun p hp => Av.lt (gd_pred (adj_bd HOk.out) hd).bd (fun x hx => by
            obtain rfl : x = hd := by simpa using hx
            exact hhN) (hwb.rm p hp))
          omega
        obtain ⟨xs, hxs⟩ : ∃ xs, natI ln = xs := ⟨_, rfl⟩
        have HXs := hid hxs
        have hxe : xs.length = ln.length := by rw [← hxs, natI_len]
        have HXe := hid hxe
        rw [hxs] at hown
        have HO := hid hown
        have hro := Rd.of_own hown
        obtain ⟨sl, cl, rfl⟩ := own_slice hown
        clear hbt hbel hwb hown hxs
        by_cases hlt : k < xs.length
        case neg =>
          have hke : k = xs.length := by omega
          have HD := hid (show WB (adj g) hd M [] from by
            have h := HWb.out
            rwa [List.drop_of_length_le (by omega)] at h)
          subst hke
          clear hxe
          go_wp2_with fail
          refine (trues_c g.length gb g.length _ wr HT.out (by omega)).mono ?_
          rintro e w8 ⟨v8, rfl, hown8, hb8⟩
          have hte : truesL (fun q => decide (q ∈ M)) g.length = os := by
            rw [← HE.out]
            unfold loopP
            congr 1
            funext q
            exact decide_eq_decide.2 ((HD.out.done (adj_bd HOk.out) q).trans (lp_left (adj_bd HOk.out) hhN q).symm)
          rw [hte] at hown8
          have hbr := HB4.out.trans (HBe.out.mono hz4)
          have HO8 := hid (own_mono hown8 hbr.size)
          have HB8 := hid (hbr.trans (hb8.mono hbr.size))
          obtain ⟨s8, c8, rfl⟩ := own_slice hown8
          clear hown8 hb8 hte hbr
          go_wp2_with fail
          go_ret
          exact ⟨_, rfl, HO8.out, HB8.out⟩
        have hlk : k < ln.length := by omega
        have HDr2 := hid (drop_cons ln k hlk)
        have hae : xs.getD k 0 = (ln.getD k 0 : Nat) := by rw [← HXs.out, natI_get _ _ hlk]
        obtain ⟨a, haa⟩ : ∃ a, ln.getD k 0 = a := ⟨_, rfl⟩
        have HAa := hid haa
        rw [haa] at hae HDr2
        have HW2 := hid (show WB (adj g) hd M (a :: ln.drop (k + 1)) by rw [← HDr2.out]; exact HWb.out)
        have haN := order_lt (adj_bd HOk.out) a (HW2.out.ra a (by simp)).1
        obtain ⟨a9, c9, e9, h9⟩ := hro
        rcases h9 with h9 | ⟨b2, o2, rfl, hb2, hc2⟩
        · rw [h9] at hlt; simp at hlt
        simp only [Value.slice.injEq, true_and, and_true] at e9
        obtain ⟨rfl, rfl⟩ := e9
        have q1 := hc2 k hlt
        rw [hae] at q1
        have t0 := HT.out.cell haN
        clear hc2 hae haa hxe
        by_cases ha : a ∈ M
        · rw [decide_eq_true ha] at t0
          have HA := hid ha
          clear ha
          go_wp2_with fail
          go_roundg (31 * (30 - M.length) + (ln.length - (k + 1)))
          case measure => omega
          case rel => exact ⟨k + 1, ln, M, by go_num, by omega, HW2.out.again HA.out, hll, Nat.le_refl _, hzr, by rw [HXs.out]; exact HO.out, HT.out, HBe.out⟩
        · rw [decide_eq_false ha] at t0
          have HA := hid ha
          have tf : wr.frozen? ⟨gb, a, none⟩ = false := by obtain ⟨cur, hcr, _⟩ := HT.out; exact hcr.free a
          clear ha
          go_upto_region 18 with fail
          clear t0 tf q1
          have ho8 : Only (fun x => x = gb) wr (wr.setCell ⟨gb, a, none⟩ (.bool true)) := (Only.refl (fun x => x = gb) wr).setCell (g := gb) rfl a _
          have ht8 := HT.out.set haN
          rw [mem_snoc] at ht8
          generalize wr.setCell ⟨gb, a, none⟩ (.bool true) = w8 at ho8 ht8 ⊢
          have HT8 := hid ht8
          have hz8 := ho8.size
          have HB8 := hid (HBe.out.trans (ho8.below (by omega) (fun k hk => by omega)))
          have hlo : ∀ k, (Value.slice (some ⟨b2, o2, none⟩) xs.length cl).ownBlock = some k → W6 ≤ k := fun k hk => (HO.out.lt k hk).1
          have HO8 := hid (own_only HO.out (fun k hk h => by have := hlo k hk; omega) ho8)
          have HMt := hid (HW2.out.meet (adj_bd HOk.out) HA.out)
          clear ho8 ht8 hlo
          go_wp2_with fail
          go_loopw [8, 11] (fun lv y wx => ∃ (j : Nat) (ln2 : List Nat), y = .int .i64 j ∧ j ≤ od.length ∧ ln2 = ln ++ ((orderP (adj g)).take j).filter (fun q => decide (a ∈ adj g q)) ∧ W6 ≤ wx.heap.size ∧ wx.ownsRow W6 3 1 lv (natI ln2).length (ints (natI ln2)) ∧ BAt wx gb g.length (fun q => decide (q ∈ M ++ [a])) ∧ Below gb w4 wx) (fun _ y _ => od.length - (intOf y).toNat)
          case atStart => exact ⟨0, ln, rfl, by omega, by simp, by omega, by rw [HXs.out]; exact HO8.out, HT8.out, HB8.out⟩
          case round =>
            obtain ⟨j, ln2, rfl, hj, hln2, hzx, hown, hbt, hbel⟩ := hrel
            have HTj := hid hbt
            have HBj := hid hbel
            have HLn2 := hid hln2
            have hl2 : ln.length ≤ ln2.length ∧ ln2.length ≤ ln.length + 30 := by
              rw [hln2, List.length_append]
              have h1 := List.length_filter_le (fun q => decide (a ∈ adj g q)) ((orderP (adj g)).take j)
              rw [List.length_take] at h1
              omega
            have HRo := hid (Rd.below HR4.out HK4.out hbel)
            have HGr := hid ((HG.out.on HB4.out).below (hbel.mono (Nat.le_trans HG.out.le hz4)))
            have hka : ln2.getD k 0 = a := by
              rw [hln2, List.getD_eq_getElem?_getD, List.getElem?_append_left hlk, ← List.getD_eq_getElem?_getD]
              exact HAa.out
            have hke : (natI ln2).getD k 0 = (a : Int) := by rw [natI_get _ _ (by omega), hka]
            obtain ⟨zs, hzs⟩ : ∃ zs, natI ln2 = zs := ⟨_, rfl⟩
            have HZs := hid hzs
            have hzl : zs.length = ln2.length := by rw [← hzs, natI_len]
            rw [hzs] at hown hke
            have HOj := hid hown
            have hroj := Rd.of_own hown
            obtain ⟨sj, cj, rfl⟩ := own_slice hown
            have hkz : k < zs.length := by omega
            have hzb : zs.length ≤ 2000 := by omega
            have hl3 := hl2
            have HL3 := hid hl3
            clear hbt hbel hln2 hown hzs hka hzl hl2 hl3
            by_cases hjt : j < od.length
            case neg =>
              obtain rfl : j = od.length := by omega
              have HN := hid (show ln2.drop (k + 1) = ln.drop (k + 1) ++ (orderP (adj g)).filter (fun q => decide (a ∈ adj g q)) by
                rw [HLn2.out, List.take_of_length_le (by have h := HOd.out; rw [← h, natI_len]; exact Nat.le_refl _), List.drop_append_of_le_length (by omega)])
              have hMl2 : (M ++ [a]).length ≤ 30 := by
                have := nodup_le g.length (M ++ [a]) HMt.out.nd (fun p hp => Av.lt (gd_pred (adj_bd HOk.out) hd).bd (fun x hx => by
                  obtain rfl : x = hd := by simpa using hx
                  exact hhN) (HMt.out.rm p hp))
                omega
              rw [List.length_append, List.length_singleton] at hMl2
              clear hke hroj
              go_wp2_with fail
              have h3 := HL3.out
              go_roundg (31 * (30 - (M.length + 1)) + (ln2.length - (k + 1)))
              case measure => omega
              case rel =>
                exact ⟨k + 1, ln2, M ++ [a], by go_num, by omega, by rw [HN.out]; exact HMt.out, by rw [List.length_append, List.length_singleton]; omega, by rw [List.length_append, List.length_singleton]; exact Nat.le_refl _, hzx, by rw [HZs.out]; exact HOj.out, HTj.out, HBj.out⟩
            have hjo : j < (orderP (adj g)).length := by have h := HOd.out; rw [← h, natI_len] at hjt; exact hjt
            have hpe : od.getD j 0 = ((orderP (adj g)).getD j 0 : Nat) := by rw [← HOd.out, natI_get _ _ hjo]
            have hpm : (orderP (adj g)).getD j 0 ∈ orderP (adj g) := by simp [hjo]
            have HTk := hid (take_snoc (orderP (adj g)) j hjo)
            obtain ⟨p, hpp⟩ : ∃ p, (orderP (adj g)).getD j 0 = p := ⟨_, rfl⟩
            rw [hpp] at hpe hpm HTk
            have hpN := order_lt (adj_bd HOk.out) p hpm
            have HFi := hid (filt_snoc' (fun q => decide (a ∈ adj g q)) (orderP (adj g)) j p HTk.out)
            have hll9 := (okG_at HOk.out hpN).1
            have HMe := hid (show decide ((a : Int) ∈ g.getD p []) = decide (a ∈ adj g p) by
              rw [← adj_nat HOk.out hpN]
              exact decide_eq_decide.2 mem_natI')
            obtain ⟨l, hl9⟩ : ∃ l, g.getD p [] = l := ⟨_, rfl⟩
            obtain ⟨a9, c9, e9, h9⟩ := HRo.out
            rcases h9 with h9 | ⟨b3, o3, rfl, hb3, hc3⟩
            · rw [h9] at hjt; simp at hjt
            simp only [Value.slice.injEq, true_and, and_true] at e9
            obtain ⟨rfl, rfl⟩ := e9
            have q1 := hc3 j hjt
            rw [hpe] at q1
            obtain ⟨b, o, cap, u, su, cu, hve, rfl, q2, hru, hku, hbB⟩ := HGr.out.get hpN
            simp only [Value.slice.injEq, true_and] at hve
            obtain ⟨rfl, rfl⟩ := hve
            rw [hl9] at q2 hru hll9 HMe
            have HRu := hid hru
            obtain ⟨a8, c8, e8, h8⟩ := hroj
            rcases h8 with h8 | ⟨b4, o4, rfl, hb4, hc4⟩
            · rw [h8] at hkz; simp at hkz
            simp only [Value.slice.injEq, true_and, and_true] at e8
            obtain ⟨rfl, rfl⟩ := e8
            have q3 := hc4 k hkz
            rw [hke] at q3
            have hk1 : (k : Int) < zs.length := by omega
            have hk0 : 0 ≤ (k : Int) := by omega
            have hj1 : (j : Int) < od.length := by omega
            have hj0 : 0 ≤ (j : Int) := by omega
            have hp1 : (p : Int) < g.length := by omega
            have hp0 : 0 ≤ (p : Int) := by omega
            have hll4 : l.length ≤ 4611686018427387904 := by omega
            have hin : ∀ n, Calls Try.prog 52 #[.slice su l.length cu, .int .i64 a] (wr.drewN n) fun e w'' => e = .returned (.bool (decide ((a : Int) ∈ l))) ∧ ∃ m, w'' = wr.drewN m := fun n => Calls.quiet_of_same (inList_c l a (.slice su l.length cu) (wr.drewN n) (Rd.on (w := wr) HRu.out (In.below_drewN wr n)) hll4)
            clear hpm hpp hc3 hru hku hbB hl9 hpe hc4 hke
            go_wp2_with fail
            go_quiet ((go_at_call 52; exact hin _))
            have hqb := In.below_drewN wr nq
            obtain ⟨w9, hw9⟩ : ∃ w9, wr.drewN nq = w9 := ⟨_, rfl⟩
            rw [hw9] at hqb ⊢
            have HOq := hid (own_on HOj.out hqb)
            have HTq := hid (HTj.out.on hqb)
            have HBq := hid (HBj.out.trans (hqb.mono (by omega)))
            have hz9 := hqb.size
            have q4 := (hqb.cell (p := ⟨b3, o3 + j, none⟩) hb3).trans q1
            rw [HMe.out]
            clear hw9 hqb hin q1 q2 q3
            by_cases hm2 : a ∈ adj g p
            case neg =>
              rw [decide_eq_false hm2]
              have HN := hid (show ln2 = ln ++ ((orderP (adj g)).take (j + 1)).filter (fun q => decide (a ∈ adj g q)) by
                rw [HFi.out, if_neg (by rw [decide_eq_false hm2]; simp), List.append_nil]
                exact HLn2.out)
              clear hm2
              go_wp2_with fail
              go_roundw
              case rel => exact ⟨j + 1, ln2, by go_num, by omega, HN.out, by omega, by rw [HZs.out]; exact HOq.out, HTq.out, HBq.out⟩
              case measure => simp [intOf]; omega
            rw [decide_eq_true hm2]
            have HN := hid (show ln2 ++ [p] = ln ++ ((orderP (adj g)).take (j + 1)).filter (fun q => decide (a ∈ adj g q)) by
              rw [HFi.out, if_pos (decide_eq_true hm2), ← List.append_assoc, ← HLn2.out])
            clear hm2
            go_wp2_with (at_builtin; refine app_ints _ rfl _ _ rfl W6 zs [(p : Int)] _ rfl (HOq.out.alloc _) _ _ _ rfl rfl (SrcAt.at_ _ [(p : Int)] #[.int .i64 p] _ 1 rfl (by simp) rfl) (by simp; omega) (by simp; omega) ?_; intro v7 w7 hg7; have HG7 := hid hg7; have hba := (Below.refl w9.heap.size w9).alloc (Nat.le_refl _) (.cells #[.int .i64 p] 3); have HBa := hid hba; have hown7 := hg7.own; obtain ⟨ys, hys⟩ : ∃ z, zs ++ [(p : Int)] = z := ⟨_, rfl⟩; rw [hys] at hown7; have HYs := hid hys; have HO7 := hid hown7; obtain ⟨s7, c7, rfl⟩ := own_slice hown7; clear hg7 hba hown7 hys)
            go_wp2_with fail
            go_roundw
            case rel =>
              have o97 : Only (fun k => (Value.slice (some ⟨b4, o4, none⟩) zs.length cj).ownBlock = some k) w9 w7 := (Only.of_below HBa.out).trans (grows_only HG7.out)
              have hlo : ∀ k, (Value.slice (some ⟨b4, o4, none⟩) zs.length cj).ownBlock = some k → W6 ≤ k := fun k hk => (HOq.out.lt k hk).1
              have hy : natI (ln2 ++ [p]) = ys := by rw [natI_app, HZs.out, ← HYs.out]; rfl
              exact ⟨j + 1, ln2 ++ [p], by go_num, by omega, HN.out, by have := o97.size; omega, by rw [hy]; exact HO7.out, HTq.out.only (fun h => by have := hlo gb h; omega) o97, HBq.out.trans (o97.below (by omega) (fun k hk => by have := hlo k hk; omega))⟩
            case measure => simp [intOf]; omega
    have hko : k < (orderP (adj g)).length := by have h := HOd.out; rw [← h, natI_len] at hlt; exact hlt
    have hpe : od.getD k 0 = ((orderP (adj g)).getD k 0 : Nat) := by rw [← HOd.out, natI_get _ _ hko]
    have hpm : (orderP (adj g)).getD k 0 ∈ orderP (adj g) := by simp [hko]
    have HTk := hid (take_snoc (orderP (adj g)) k hko)
    obtain ⟨p, hpp⟩ : ∃ p, (orderP (adj g)).getD k 0 = p := ⟨_, rfl⟩
    rw [hpp] at hpe hpm HTk
    have hpN := order_lt (adj_bd HOk.out) p hpm
    have HPr := hid ((mem_order (adj_bd HOk.out) p).1 hpm)
    have HFi := hid (filt_snoc' (firstF (adj g) hd) (orderP (adj g)) k p HTk.out)
    have hll := (okG_at HOk.out hpN).1
    have HMe := hid (show decide ((hd : Int) ∈ g.getD p []) = decide (hd ∈ adj g p) by
      rw [← adj_nat HOk.out hpN]
      exact decide_eq_decide.2 mem_natI')
    obtain ⟨l, hl9⟩ : ∃ l, g.getD p [] = l := ⟨_, rfl⟩
    obtain ⟨a9, c9, e9, h9⟩ := HRo.out
    rcases h9 with h9 | ⟨b2, o2, rfl, hb2, hc2⟩
    · rw [h9] at hlt; simp at hlt
    simp only [Value.slice.injEq, true_and, and_true] at e9
    obtain ⟨rfl, rfl⟩ := e9
    have q1 := hc2 k hlt
    rw [hpe] at q1
    obtain ⟨b, o, cap, u, su, cu, hve, rfl, q2, hru, hku, hbB⟩ := HGr.out.get hpN
    simp only [Value.slice.injEq, true_and] at hve
    obtain ⟨rfl, rfl⟩ := hve
    rw [hl9] at q2 hru hll HMe
    have HRu := hid hru
    clear hpm hpp hc2 hru hku hbB hl9 hpe
    go_wp2_with fail
    refine (inList_c l hd _ _ HRu.out (by omega)).mono ?_
    rintro e w8 ⟨rfl, rfl⟩
    rw [HMe.out]
    by_cases hm : hd ∈ adj g p
    case neg =>
      rw [decide_eq_false hm]
      have HN := hid (show ((orderP (adj g)).take (k + 1)).filter (firstF (adj g) hd) = ln by
        rw [HFi.out, if_neg (by unfold firstF; rw [decide_eq_false hm]; simp), List.append_nil, HLn.out])
      clear hm
      go_wp2_with fail
      go_roundw
      case rel => exact ⟨k + 1, ln, by go_num, by omega, HN.out.symm, hzr, by rw [HXs.out]; exact HO.out, HT.out, HBe.out⟩
      case measure => simp [intOf]; omega
    rw [decide_eq_true hm]
    have HHm := hid hm
    clear hm
    go_wp2_with fail
    refine (over_c (adj_bd HOk.out) (by omega) hd p _ _ HDr.out HHr.out HPr.out).mono ?_
    rintro e w9 ⟨rfl, rfl⟩
    by_cases ho : p ∈ belowP (adj g) (hd : Int)
    case neg =>
      rw [decide_eq_false ho]
      have HN := hid (show ((orderP (adj g)).take (k + 1)).filter (firstF (adj g) hd) = ln by
        rw [HFi.out, if_neg (by unfold firstF; rw [decide_eq_false ho]; simp), List.append_nil, HLn.out])
      clear ho
      go_wp2_with fail
      go_roundw
      case rel => exact ⟨k + 1, ln, by go_num, by omega, HN.out.symm, hzr, by rw [HXs.out]; exact HO.out, HT.out, HBe.out⟩
      case measure => simp [intOf]; omega
    rw [decide_eq_true ho]
    have HN := hid (show ((orderP (adj g)).take (k + 1)).filter (firstF (adj g) hd) = ln ++ [p] by
      rw [HFi.out, if_pos (by unfold firstF; rw [decide_eq_true ho, decide_eq_true HHm.out]; rfl), HLn.out])
    clear ho
    go_wp2_with (at_builtin; refine app_ints _ rfl _ _ rfl W6 xs [(p : Int)] _ rfl (HO.out.alloc _) _ _ _ rfl rfl (SrcAt.at_ _ [(p : Int)] #[.int .i64 p] _ 1 rfl (by simp) rfl) (by simp; omega) (by simp; omega) ?_; intro v7 w7 hg7; have HG7 := hid hg7; have hba := (Below.refl w9.heap.size w9).alloc (Nat.le_refl _) (.cells #[.int .i64 p] 3); have HBa := hid hba; have hown7 := hg7.own; obtain ⟨ys, hys⟩ : ∃ z, xs ++ [(p : Int)] = z := ⟨_, rfl⟩; rw [hys] at hown7; have HYs := hid hys; have HO7 := hid hown7; obtain ⟨s7, c7, rfl⟩ := own_slice hown7; clear hg7 hba hown7 hys)
    go_wp2_with fail
    go_roundw
    case rel =>
      have o97 : Only (fun k => (Value.slice sl xs.length cl).ownBlock = some k) w9 w7 := (Only.of_below HBa.out).trans (grows_only HG7.out)
      have hlo : ∀ k, (Value.slice sl xs.length cl).ownBlock = some k → W6 ≤ k := fun k hk => (HO.out.lt k hk).1
      have hy : natI (ln ++ [p]) = ys := by rw [natI_app, HXs.out, ← HYs.out]; rfl
      exact ⟨k + 1, ln ++ [p], by go_num, by omega, HN.out.symm, Nat.le_trans hzr o97.size, by rw [hy]; exact HO7.out, HT.out.only (fun h => by have := hlo gb h; omega) o97, HBe.out.trans (o97.below (by omega) (fun k hk => by have := hlo k hk; omega))⟩
    case measure => simp [intOf]; omega
end Go.Proofs.Ytbbhbjdpdhbjlaa.Ge
