/- Whether a node is over another one, in the model; its DomsOf and DominatesIn. -/
import Derived.Test.YtbbhbjdpdhbjlaaGx
set_option linter.unusedSimpArgs false
set_option linter.unusedVariables false
namespace Go.Proofs.Ytbbhbjdpdhbjlaa.Ge
open Go.RowKit Pl Ft Mm In Gp

theorem domsP_get {L : Nat → List Nat} {N c : Nat} (h : c < N) : (domsP L N).getD c 0 = domI L c := by simp [domsP, h]
theorem domsP_len (L : Nat → List Nat) (N : Nat) : (domsP L N).length = N := by simp [domsP]
/-- The node that stands at its turn, and what its being over tells. -/
def OvRel (L : Nat → List Nat) (a b : Nat) (z : Int) : Prop := (z = -1 ∧ ¬ Dm L a b) ∨ ∃ c : Nat, z = c ∧ Av L [] [0] c ∧ (Dm L a b ↔ Dm L a c)
noncomputable def ovM (L : Nat → List Nat) (z : Int) : Nat := if z < 0 then 0 else (orderP L).idxOf z.toNat + 1
theorem ov_step {L : Nat → List Nat} {N : Nat} (hL : Gd L N) {a b c : Nat} (hc : Av L [] [0] c) (hi : Dm L a b ↔ Dm L a c) (hne : c ≠ a) : OvRel L a b (domI L c) ∧ ovM L (domI L c) < ovM L (c : Int) := by
  rcases domI_cases hL c with ⟨h1, h2⟩ | ⟨y, h1, h2, h3, h4⟩
  · rw [h1]
    refine ⟨.inl ⟨rfl, fun h => hne (h2 a (hi.1 h)).symm⟩, ?_⟩
    unfold ovM
    rw [if_pos (by omega), if_neg (by omega)]
    omega
  · rw [h1]
    refine ⟨.inr ⟨y, rfl, h3.left, hi.trans ⟨fun h => h4 a h (fun e => hne e.symm), fun h => h.trans h3⟩⟩, ?_⟩
    have := h3.ahead hL h2
    unfold ovM
    rw [if_neg (by omega), if_neg (by omega)]
    simp only [Int.toNat_natCast]
    omega
set_option maxHeartbeats 2000000 in
theorem over_c {L : Nat → List Nat} {N : Nat} (hL : Gd L N) (hN : N ≤ 1000) (a b : Nat) (v : Value) (w : World) (h : Rd w v (domsP L N)) (ha : Av L [] [0] a) (hb : Av L [] [0] b) :
    Calls Try.prog 58 #[v, .int .i64 a, .int .i64 b] w fun e w' => e = .returned (.bool (decide (b ∈ belowP L (a : Int)))) ∧ w' = w := by
  obtain ⟨s, cs, rfl, hr⟩ := h
  have HA := hid hr
  have HL := hid hL
  have HB := hid hb
  have HDl := hid (domsP_len L N)
  obtain ⟨r, hr2⟩ : ∃ r, decide (b ∈ belowP L (a : Int)) = r := ⟨_, rfl⟩
  have HR := hid (show r = true ↔ Dm L a b by rw [← hr2, decide_eq_true_iff, below_dm hL])
  rw [hr2]
  have HAa := hid ha
  obtain ⟨n, hn⟩ : ∃ n, (domsP L N).length = n := ⟨_, rfl⟩
  have HN := hid (show n = N by rw [← hn, domsP_len])
  rw [hn] at HA ⊢
  have hnb : n ≤ 1000 := by rw [HN.out]; exact hN
  clear hr hL hb hr2 ha hn
  go_enter Try.func58, Try.ntmps58
  go_wp2_with fail
  go_loop [2] (fun y => ∃ z : Int, y = .int .i64 z ∧ OvRel L a b z) (fun y => ovM L (intOf y))
  case atStart => exact ⟨b, rfl, .inr ⟨b, rfl, HB.out, Iff.rfl⟩⟩
  case round =>
    obtain ⟨z, rfl, hz⟩ := hrel
    rcases hz with ⟨rfl, hno⟩ | ⟨c, rfl, hc, hi⟩
    · have HNo := hid hno
      have hza : ¬ ((-1 : Int) = (a : Int)) := by omega
      clear hno
      go_wp2_with fail
      go_ret
      refine ⟨bool_eq ?_, rfl⟩
      cases r
      · simp <;> omega
      · exact absurd (HR.out.1 rfl) HNo.out
    · have HC := hid hc
      have HI := hid hi
      by_cases hca : c = a
      · subst hca
        clear hc hi
        go_wp2_with fail
        go_ret
        refine ⟨bool_eq ?_, rfl⟩
        rw [HR.out.2 (HI.out.2 (.refl HC.out))]
      · have hca2 : ¬ ((c : Int) = (a : Int)) := by omega
        have hcN := hc.lt HL.out.bd (st_lt HL.out)
        have hst := hid (ov_step HL.out hc hi hca)
        rcases HA.out with h9 | ⟨g, o, rfl, hg, hcs⟩
        · have h8 := HDl.out
          rw [h9] at h8
          simp at h8 <;> omega
        have q1 := hcs c (by rw [HN.out]; exact hcN)
        rw [domsP_get hcN] at q1
        have hcn : c < n := by rw [HN.out]; exact hcN
        obtain ⟨y, hy⟩ : ∃ y, domI L c = y := ⟨_, rfl⟩
        rw [hy] at q1 hst
        clear hc hi hcs hcN
        go_wp2_with fail
        go_round
        case rel => exact ⟨y, rfl, hst.out.1⟩
        case measure => exact hst.out.2
noncomputable def domsS (g : List (List Int)) : List Int := if okG g = true then domsP (adj g) g.length else []
theorem domsS_len (g : List (List Int)) : (domsS g).length ≤ 30 := by
  unfold domsS
  split
  · rename_i h
    rw [domsP_len]
    have := okG_len h
    omega
  · simp
theorem sDomsOf_c (g : List (List Int)) (v : Value) (B : Nat) (w : World) (h : GAt B w v g) (hs : Sz g) :
    Calls Try.prog 26 #[v] w (WaysPost (domsS g) w) := by
  obtain ⟨sg, cg, rfl⟩ := h.slice
  have HG := hid h
  have HS := hid hs
  obtain ⟨os, hos⟩ : ∃ os, domsS g = os := ⟨_, rfl⟩
  have HOs := hid hos
  rw [hos]
  clear h hs hos
  go_enter Try.func26, Try.ntmps26
  go_wp2_with fail
  refine (validGraph_c g _ w HG.out.grd HS.out).mono ?_
  rintro e w1 ⟨rfl, rfl⟩
  cases hok : okG g
  · have HO := hid (show os = [] by rw [← HOs.out, domsS, hok]; rfl)
    clear hok
    go_wp2_with fail
    go_ret
    exact ⟨_, rfl, by rw [HO.out]; exact World.ownsRow_nil _ _ _ _, Below.refl _ _⟩
  · have HO := hid (show domsP (adj g) g.length = os by rw [← HOs.out, domsS, hok]; rfl)
    have HOk := hid hok
    clear hok
    go_wp2_with fail
    refine (sDoms_c g B _ w1 HOk.out HG.out).mono ?_
    rintro e w2 ⟨v2, rfl, hown, hb2⟩
    rw [HO.out] at hown
    have HOw := hid hown
    have HB2 := hid hb2
    obtain ⟨s1, c1, rfl⟩ := own_slice hown
    clear hown hb2
    go_wp2_with fail
    go_ret
    exact ⟨_, rfl, HOw.out, HB2.out⟩
set_option maxRecDepth 100000 in
set_option maxHeartbeats 4000000 in
theorem sDominatesIn_c (g : List (List Int)) (x y : Int) (v : Value) (B : Nat) (w : World) (h : GAt B w v g) (hs : Sz g) :
    Calls Try.prog 29 #[v, .int .i64 x, .int .i64 y] w fun e w' => e = .returned (.bool (overS g x y)) ∧ Below w.heap.size w w' := by
  obtain ⟨sg, cg, rfl⟩ := h.slice
  have HG := hid h
  have HS := hid hs
  obtain ⟨r, hr⟩ : ∃ r, overS g x y = r := ⟨_, rfl⟩
  have HR := hid hr
  rw [hr]
  have hgl := hs.len
  clear h hs hr
  go_enter Try.func29, Try.ntmps29
  go_wp2_with fail
  refine (validGraph_c g _ w HG.out.grd HS.out).mono ?_
  rintro e w1 ⟨rfl, rfl⟩
  cases hok : okG g
  · have HO := hid (show r = false by rw [← HR.out, overS, hok]; rfl)
    clear hok
    go_wp2_with fail
    go_ret
    exact ⟨bool_eq HO.out.symm, Below.refl _ _⟩
  have HOk := hid hok
  have HGd := hid (adj_bd hok)
  have HE := hid (show decide (y ∈ natI (belowP (adj g) x)) = r by rw [← HR.out, overS, hok]; rfl)
  have hNo : ∀ z : Int, z ∈ natI (orderP (adj g)) → 0 ≤ z ∧ z < g.length := fun z h => by
    obtain ⟨p, hp, rfl⟩ := mem_natI.1 h
    have := order_lt (adj_bd hok) p hp
    omega
  have HYin := hid (show y ∈ natI (belowP (adj g) x) → y ∈ natI (orderP (adj g)) from fun h => by
    obtain ⟨p, hp, rfl⟩ := mem_natI.1 h
    exact mem_natI'.2 ((mem_order (adj_bd hok) p).2 ((mem_below (adj_bd hok) x p).1 hp).1))
  have HXin := hid (show y ∈ natI (belowP (adj g) x) → x ∈ natI (orderP (adj g)) from fun h => by
    obtain ⟨p, hp, rfl⟩ := mem_natI.1 h
    apply Classical.byContradiction
    intro hx
    have := below_out (adj_bd hok) x (fun q hq e => hx (e ▸ mem_natI'.2 hq))
    rw [this] at hp
    cases hp)
  have HNo := hid hNo
  clear hok hNo
  go_wp2_with fail
  refine (inRange_c x 0 _ w1).mono ?_
  rintro e w2 ⟨rfl, rfl⟩
  by_cases hx : 0 ≤ x ∧ x ≤ (g.length : Int) - 1
  case neg =>
    have hbx : (decide (0 ≤ x) && decide (x ≤ (g.length : Int) - 1)) = false := by
      rw [Bool.and_eq_false_iff, decide_eq_false_iff_not, decide_eq_false_iff_not]
      omega
    rw [hbx]
    have HF := hid (show r = false by rw [← HE.out, decide_eq_false_iff_not]; intro hm; have := HNo.out x (HXin.out hm); omega)
    clear hx hbx
    go_wp2_with fail
    go_ret
    exact ⟨bool_eq HF.out.symm, Below.refl _ _⟩
  have hbx : (decide (0 ≤ x) && decide (x ≤ (g.length : Int) - 1)) = true := by
    rw [decide_eq_true hx.1, decide_eq_true hx.2]
    rfl
  rw [hbx]
  have HX := hid hx
  clear hx hbx
  go_wp2_with fail
  refine (inRange_c y 0 _ w2).mono ?_
  rintro e w3 ⟨rfl, rfl⟩
  by_cases hy : 0 ≤ y ∧ y ≤ (g.length : Int) - 1
  case neg =>
    have hby : (decide (0 ≤ y) && decide (y ≤ (g.length : Int) - 1)) = false := by
      rw [Bool.and_eq_false_iff, decide_eq_false_iff_not, decide_eq_false_iff_not]
      omega
    rw [hby]
    have HF := hid (show r = false by rw [← HE.out, decide_eq_false_iff_not]; intro hm; have := HNo.out y (HYin.out hm); omega)
    clear hy hby
    go_wp2_with fail
    go_ret
    exact ⟨bool_eq HF.out.symm, Below.refl _ _⟩
  have hby : (decide (0 ≤ y) && decide (y ≤ (g.length : Int) - 1)) = true := by
    rw [decide_eq_true hy.1, decide_eq_true hy.2]
    rfl
  rw [hby]
  have HY := hid hy
  clear hy hby
  go_wp2_with fail
  refine (order_c g B _ w3 HOk.out HG.out).mono ?_
  rintro e w4 ⟨v4, rfl, hown, hb4⟩
  have HB4 := hid hb4
  obtain ⟨od, hod⟩ : ∃ od, natI (orderP (adj g)) = od := ⟨_, rfl⟩
  have hodl : od.length ≤ 1000 := by have h1 := order_len (adj_bd HOk.out); have h2 := okG_len HOk.out; rw [← hod, natI_len]; omega
  have HOd := hid hod
  rw [hod] at hown HXin HYin
  have HR4 := hid (Rd.of_own hown)
  obtain ⟨so, co, rfl⟩ := own_slice hown
  clear hown hb4 hod
  go_wp2_with fail
  refine (inList_c od x _ w4 HR4.out (by omega)).mono ?_
  rintro e w5 ⟨rfl, rfl⟩
  by_cases hxm : x ∈ od
  case neg =>
    rw [decide_eq_false hxm]
    have HF := hid (show r = false by rw [← HE.out, decide_eq_false_iff_not]; exact fun hm => hxm (HXin.out hm))
    clear hxm
    go_wp2_with fail
    go_ret
    exact ⟨bool_eq HF.out.symm, HB4.out⟩
  rw [decide_eq_true hxm]
  have HXm := hid hxm
  clear hxm
  go_wp2_with fail
  refine (inList_c od y _ w5 HR4.out (by omega)).mono ?_
  rintro e w6 ⟨rfl, rfl⟩
  by_cases hym : y ∈ od
  case neg =>
    rw [decide_eq_false hym]
    have HF := hid (show r = false by rw [← HE.out, decide_eq_false_iff_not]; exact fun hm => hym (HYin.out hm))
    clear hym
    go_wp2_with fail
    go_ret
    exact ⟨bool_eq HF.out.symm, HB4.out⟩
  rw [decide_eq_true hym]
  obtain ⟨p, hp, rfl⟩ := mem_natI.1 (show x ∈ natI (orderP (adj g)) by rw [HOd.out]; exact HXm.out)
  obtain ⟨q, hq, rfl⟩ := mem_natI.1 (show y ∈ natI (orderP (adj g)) by rw [HOd.out]; exact hym)
  have HP := hid ((mem_order HGd.out p).1 hp)
  have HQ := hid ((mem_order HGd.out q).1 hq)
  have HEq := hid (show decide (q ∈ belowP (adj g) (p : Int)) = r by rw [← HE.out]; exact decide_eq_decide.2 mem_natI'.symm)
  clear hp hq hym HXm HX HY
  go_wp2_with fail
  refine (sDoms_c g B _ w6 HOk.out (HG.out.on HB4.out)).mono ?_
  rintro e w7 ⟨v7, rfl, hown, hb7⟩
  have HB7 := hid (HB4.out.trans (hb7.mono HB4.out.size))
  have HR7 := hid (Rd.of_own hown)
  obtain ⟨s7, c7, rfl⟩ := own_slice hown
  clear hown hb7
  go_wp2_with fail
  refine (over_c HGd.out (by have := okG_len HOk.out; omega) p q _ w7 HR7.out HP.out HQ.out).mono ?_
  rintro e w8 ⟨rfl, rfl⟩
  rw [HEq.out]
  go_wp2_with fail
  go_ret
  exact ⟨rfl, HB7.out⟩
end Go.Proofs.Ytbbhbjdpdhbjlaa.Ge
