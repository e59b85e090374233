/- The model's places in a list, its nearest nodes on all ways, and whether a node is over another; OrderOf, DomsOf, DominatesIn of the model. -/
import Derived.Test.YtbbhbjdpdhbjlaaGd
import Derived.Test.YtbbhbjdpdhbjlaaGo
set_option linter.unusedSimpArgs false
set_option linter.unusedVariables false
namespace Go.Proofs.Ytbbhbjdpdhbjlaa.Ge
open Go.RowKit Pl Ft Mm In Gp

/-- The first place of a number in a list; -1 if it is not there. -/
def placeP (xs : List Int) (x : Int) : Int := if x ∈ xs then (xs.idxOf x : Int) else -1
theorem idx_take {xs : List Int} {x : Int} {k : Nat} (hk : k < xs.length) (hno : x ∉ xs.take k) (hx : xs.getD k 0 = x) : xs.idxOf x = k := by
  have e : xs = xs.take k ++ xs.drop k := (List.take_append_drop k xs).symm
  have h2 : xs.drop k = xs[k] :: xs.drop (k + 1) := List.drop_eq_getElem_cons hk
  have h3 : xs[k] = x := by
    rw [← hx]
    simp [hk]
  rw [e, List.idxOf_append, if_neg hno, h2, h3, List.idxOf_cons_self, List.length_take]
  omega
set_option maxHeartbeats 1000000 in
theorem placeOf_c (xs : List Int) (x : Int) (v : Value) (w : World) (h : Rd w v xs) (hl : xs.length ≤ 4611686018427387904) :
    Calls Try.prog 75 #[v, .int .i64 x] w fun e w' => e = .returned (.int .i64 (placeP xs x)) ∧ w' = w := by
  obtain ⟨s, cs, rfl, ha⟩ := h
  have HA := hid ha
  obtain ⟨r, hr⟩ : ∃ r, placeP xs x = r := ⟨_, rfl⟩
  have HR := hid hr
  rw [hr]
  clear ha hr
  go_enter Try.func75, Try.ntmps75
  go_wp2_with fail
  go_loop [5] (fun y => ∃ k : Nat, y = .int .i64 k ∧ k ≤ xs.length ∧ x ∉ xs.take k) (fun y => xs.length - (intOf y).toNat)
  case atStart => exact ⟨0, rfl, by omega, by simp⟩
  case round =>
    obtain ⟨k, rfl, hk, hno⟩ := hrel
    have HNo := hid hno
    clear hno
    by_cases hlt : k < xs.length
    · rcases HA.out with h | ⟨g, o, rfl, hg, hc⟩
      · subst h; simp at hlt
      have q1 := hc k hlt
      have HT := hid (show xs.take (k + 1) = xs.take k ++ [xs.getD k 0] by rw [List.take_succ_eq_append_getElem hlt]; simp [hlt])
      have HM := hid (show xs.getD k 0 ∈ xs by simp [hlt])
      obtain ⟨y, hy⟩ : ∃ y, xs.getD k 0 = y := ⟨_, rfl⟩
      have HY := hid hy
      rw [hy] at q1 HT HM
      clear hc hy
      by_cases hxy : y = x
      · subst hxy
        have HK := hid (show r = k by rw [← HR.out, placeP, if_pos HM.out, idx_take hlt HNo.out HY.out])
        go_wp2_with fail
        go_ret
        exact ⟨int_eq HK.out.symm, rfl⟩
      · go_wp2_with fail
        go_round
        case rel => exact ⟨k + 1, by go_num, by omega, by rw [HT.out, List.mem_append]; simp only [List.mem_singleton]; exact fun h => h.elim HNo.out (fun h => hxy h.symm)⟩
        case measure => simp [intOf]; omega
    · obtain rfl : k = xs.length := by omega
      have HK := hid (show r = -1 by rw [← HR.out, placeP, if_neg (by have h := HNo.out; rwa [List.take_length] at h)])
      go_wp2_with fail
      go_ret
      exact ⟨int_eq HK.out.symm, rfl⟩
theorem placeP_pos (xs : List Int) (x : Int) : decide (0 ≤ placeP xs x) = decide (x ∈ xs) := by
  unfold placeP
  split
  · rename_i h
    rw [decide_eq_true h]
    exact decide_eq_true (by omega)
  · rename_i h
    rw [decide_eq_false h]
    exact decide_eq_false (by omega)
theorem inList_c (xs : List Int) (x : Int) (v : Value) (w : World) (h : Rd w v xs) (hl : xs.length ≤ 4611686018427387904) :
    Calls Try.prog 52 #[v, .int .i64 x] w fun e w' => e = .returned (.bool (decide (x ∈ xs))) ∧ w' = w := by
  have HR := hid h
  obtain ⟨r, hr⟩ : ∃ r, placeP xs x = r := ⟨_, rfl⟩
  have HP := hid (show decide (0 ≤ r) = decide (x ∈ xs) by rw [← hr]; exact placeP_pos xs x)
  have HQ := hid hr
  clear h hr
  go_enter Try.func52, Try.ntmps52
  go_wp2_with fail
  refine (placeOf_c xs x v w HR.out hl).mono ?_
  rintro e w1 ⟨rfl, rfl⟩
  rw [HQ.out]
  go_wp2_with fail
  go_ret
  exact ⟨bool_eq HP.out, rfl⟩
theorem sOrderOf_c (g : List (List Int)) (v : Value) (B : Nat) (w : World) (h : GAt B w v g) (hs : Sz g) :
    Calls Try.prog 21 #[v] w (WaysPost (orderS g) w) := by
  obtain ⟨sg, cg, rfl⟩ := h.slice
  have HG := hid h
  have HS := hid hs
  obtain ⟨os, hos⟩ : ∃ os, orderS g = os := ⟨_, rfl⟩
  have HOs := hid hos
  rw [hos]
  clear h hs hos
  go_enter Try.func21, Try.ntmps21
  go_wp2_with fail
  refine (validGraph_c g _ w HG.out.grd HS.out).mono ?_
  rintro e w1 ⟨rfl, rfl⟩
  cases hok : okG g
  · have HO := hid (show os = [] by rw [← HOs.out, orderS, hok]; rfl)
    clear hok
    go_wp2_with fail
    go_ret
    exact ⟨_, rfl, by rw [HO.out]; exact World.ownsRow_nil _ _ _ _, Below.refl _ _⟩
  · have HO := hid (show natI (orderP (adj g)) = os by rw [← HOs.out, orderS, hok]; rfl)
    have HOk := hid hok
    clear hok
    go_wp2_with fail
    refine (order_c g B _ w1 HOk.out HG.out).mono ?_
    rintro e w2 ⟨v2, rfl, hown, hb2⟩
    rw [HO.out] at hown
    have HOw := hid hown
    have HB2 := hid hb2
    obtain ⟨s1, c1, rfl⟩ := own_slice hown
    clear hown hb2
    go_wp2_with fail
    go_ret
    exact ⟨_, rfl, HOw.out, HB2.out⟩
theorem lastI_none {L : Nat → List Nat} {N : Nat} (hL : Gd L N) (i : Nat) (h : i = 0 ∨ i ∉ orderP L) : ∀ l, lastI L l i = -1 := by
  intro l
  unfold lastI
  have : l.filter (fun x => decide (x ≠ i) && decide (i ∈ belowP L (x : Int))) = [] := by
    rw [List.filter_eq_nil_iff]
    intro x _ hx
    rw [Bool.and_eq_true, decide_eq_true_eq, decide_eq_true_eq, below_dm hL] at hx
    rcases h with h | h
    · subst h
      rcases hx.2.2 with h1 | h1
      · exact hx.1 h1.symm
      · exact h1 (.start 0 (by simp) (by simp; exact fun h => hx.1 h.symm))
    · exact h ((mem_order hL i).2 hx.2.1)
  rw [this]
  rfl
theorem lastI_bd {L : Nat → List Nat} (l : List Nat) (i : Nat) : -1 ≤ lastI L l i := by
  unfold lastI
  split <;> omega
noncomputable def domTo (L : Nat → List Nat) (k : Nat) : List Int := (List.range k).map (domI L)
theorem domTo_succ (L : Nat → List Nat) (k : Nat) : domTo L (k + 1) = domTo L k ++ [domI L k] := by
  unfold domTo
  rw [List.range_succ, List.map_append]
  rfl
theorem domTo_len (L : Nat → List Nat) (k : Nat) : (domTo L k).length = k := by simp [domTo]
set_option maxRecDepth 100000 in
set_option maxHeartbeats 4000000 in
theorem sDoms_c (g : List (List Int)) (B : Nat) (vg : Value) (w : World) (hok : okG g = true) (hg : GAt B w vg g) :
    Calls Try.prog 54 #[vg] w (WaysPost (domsP (adj g) g.length) w) := by
  obtain ⟨sg, cg, rfl⟩ := hg.slice
  have HG := hid hg
  have HOk := hid hok
  have hlen := okG_len hok
  have hol := order_len (adj_bd hok)
  have HL0 := hid (own_lit w [] #[] rfl (by simp) 0 rfl)
  have HB0 := hid ((Below.refl w.heap.size w).alloc (Nat.le_refl _) (.cells #[] 3))
  have hz0 : (w.alloc (.cells #[] 3)).heap.size = w.heap.size + 1 := by simp
  clear hg hok
  go_enter Try.func54, Try.ntmps54
  go_wp2_with fail
  refine (order_c g B _ _ HOk.out (HG.out.on HB0.out)).mono ?_
  rintro e w1 ⟨v1, rfl, hown1, hb1⟩
  have HB1 := hid (HB0.out.trans (hb1.mono HB0.out.size))
  have HL1 := hid (own_on HL0.out hb1)
  obtain ⟨od, hod⟩ : ∃ od, natI (orderP (adj g)) = od := ⟨_, rfl⟩
  have hodl : od.length ≤ 30 := by rw [← hod, natI_len]; omega
  have hpos : 0 < od.length := by
    rw [← hod, natI_len]
    exact List.length_pos_iff.2 (List.ne_nil_of_mem ((mem_order (adj_bd HOk.out) 0).2 (.start 0 (by simp) (by simp))))
  rw [hod] at hown1
  have HOd := hid hod
  have HO1 := hid hown1
  have HR1 := hid (Rd.of_own hown1)
  obtain ⟨so, co, rfl⟩ := own_slice hown1
  have hz1 := HB1.out.size
  clear hown1 hb1 hod hz0
  go_wp2_with fail
  go_loopw [3, 5] (fun v y wr => ∃ (i : Nat) (ys : List Int), y = .int .i64 i ∧ i ≤ g.length ∧ ys = domTo (adj g) i ∧ w1.heap.size ≤ wr.heap.size ∧ wr.ownsRow w.heap.size 3 1 v ys.length (ints ys) ∧ Below w.heap.size w wr ∧ Rd wr (.slice so od.length co) od ∧ (∀ k, v.ownBlock = some k → (Value.slice so od.length co).ownBlock ≠ some k)) (fun _ y _ => g.length - (intOf y).toNat)
  case atStart => exact ⟨0, [], rfl, by omega, by simp [domTo], Nat.le_refl _, HL1.out, HB1.out, HR1.out, fun k hk h => by
    have h2 := (HO1.out.lt k h).1
    have h3 : w.heap.size = k := by simpa [Value.ownBlock] using hk
    rw [World.size_alloc] at h2
    omega⟩
  case round =>
    obtain ⟨i, ys, rfl, hi, hys, hz1r, hown, hbel, hrd, hap⟩ := hrel
    have HO := hid hown
    have HBe := hid hbel
    have HR := hid hrd
    have HY := hid hys
    have HAp := hid hap
    have hyl : ys.length ≤ 30 := by rw [hys, domTo_len]; omega
    have HKo := hid (fun k (hk : (Value.slice so od.length co).ownBlock = some k) => Nat.lt_of_lt_of_le (HO1.out.lt k hk).2 hz1r)
    have hzr := hbel.size
    obtain ⟨sv, cv, rfl⟩ := own_slice hown
    clear hown hbel hrd hys hap
    by_cases hlt : i < g.length
    case neg =>
      obtain rfl : i = g.length := by omega
      go_wp2_with fail
      go_ret
      exact ⟨_, rfl, by have h := HY.out; rw [show domTo (adj g) g.length = domsP (adj g) g.length from rfl] at h; rw [← h]; exact HO.out, HBe.out⟩
    by_cases hA : 0 < i ∧ (i : Int) ∈ od
    case neg =>
      have HDn := hid (show domI (adj g) i = -1 from lastI_none (adj_bd HOk.out) i (by
        rcases Nat.eq_zero_or_pos i with h | h
        · exact .inl h
        · refine .inr fun hm => hA ⟨h, ?_⟩
          rw [← HOd.out]
          exact mem_natI'.2 hm) _)
      have HA := hid hA
      go_wp2_with fail
      go_loopw [6, 7] (fun b y wx => b = .int .i64 (-1) ∧ y = .int .i64 0 ∧ wx = wr) (fun _ _ _ => 0)
      case atStart => exact ⟨rfl, rfl, rfl⟩
      case round =>
        obtain ⟨rfl, rfl, rfl⟩ := hrel
        by_cases hi0 : 0 < i
        · have hno : decide ((i : Int) ∈ od) = false := decide_eq_false (fun h => HA.out ⟨hi0, h⟩)
          clear hA
          go_wp2_with fail
          refine (inList_c od i _ _ HR.out (by omega)).mono ?_
          rintro e w2 ⟨rfl, rfl⟩
          rw [hno]
          clear hno
          rw [← HDn.out]
          go_wp2_with (at_builtin; refine app_ints _ rfl _ _ rfl w.heap.size ys [domI (adj g) i] _ rfl (HO.out.alloc _) _ _ _ rfl rfl (SrcAt.at_ _ [domI (adj g) i] #[.int .i64 (domI (adj g) i)] _ 1 rfl (by simp) rfl) (by simp; omega) (by simp; omega) ?_; intro v7 w7 hg7; have HG7 := hid hg7; have hba := (Below.refl w2.heap.size w2).alloc (Nat.le_refl _) (.cells #[.int .i64 (domI (adj g) i)] 3); have HBa := hid hba; have hown7 := hg7.own; obtain ⟨zs, hzs⟩ : ∃ z, ys ++ [domI (adj g) i] = z := ⟨_, rfl⟩; rw [hzs] at hown7; have HZs := hid hzs; have HO7 := hid hown7; obtain ⟨s7, c7, rfl⟩ := own_slice hown7; clear hg7 hba hown7 hzs)
          go_wp2_with fail
          go_roundw
          case rel =>
            have o67 : Only (fun k => (Value.slice sv ys.length cv).ownBlock = some k) w2 w7 := (Only.of_below HBa.out).trans (grows_only HG7.out)
            have hownB : ∀ k, (Value.slice sv ys.length cv).ownBlock = some k → w.heap.size ≤ k := fun k hk => (HO.out.lt k hk).1
            have hzz := HBe.out.size
            refine ⟨i + 1, zs, by go_num, by omega, by rw [domTo_succ, ← HY.out, HZs.out], Nat.le_trans hz1r o67.size, HO7.out, HBe.out.trans (o67.below hzz (fun k hk => hownB k hk)), Rd.only HR.out (fun k hk h => HAp.out k h hk) o67, fun k hk h => ?_⟩
            rcases HG7.out.at_ with h1 | ⟨g1, h1, h2⟩
            · exact HAp.out k (h1.symm.trans hk) h
            · have h3 := HKo.out k h
              have h4 : g1 = k := by have := h1.symm.trans hk; simpa using this
              rw [World.size_alloc] at h2
              omega
          case measure => simp [intOf]; omega
        · clear hA
          have hi9 : ¬ 0 < (i : Int) := by omega
          rw [← HDn.out]
          go_wp2_with (at_builtin; refine app_ints _ rfl _ _ rfl w.heap.size ys [domI (adj g) i] _ rfl (HO.out.alloc _) _ _ _ rfl rfl (SrcAt.at_ _ [domI (adj g) i] #[.int .i64 (domI (adj g) i)] _ 1 rfl (by simp) rfl) (by simp; omega) (by simp; omega) ?_; intro v7 w7 hg7; have HG7 := hid hg7; have hba := (Below.refl wr.heap.size wr).alloc (Nat.le_refl _) (.cells #[.int .i64 (domI (adj g) i)] 3); have HBa := hid hba; have hown7 := hg7.own; obtain ⟨zs, hzs⟩ : ∃ z, ys ++ [domI (adj g) i] = z := ⟨_, rfl⟩; rw [hzs] at hown7; have HZs := hid hzs; have HO7 := hid hown7; obtain ⟨s7, c7, rfl⟩ := own_slice hown7; clear hg7 hba hown7 hzs)
          go_wp2_with fail
          go_roundw
          case rel =>
            have o67 : Only (fun k => (Value.slice sv ys.length cv).ownBlock = some k) wr w7 := (Only.of_below HBa.out).trans (grows_only HG7.out)
            have hownB : ∀ k, (Value.slice sv ys.length cv).ownBlock = some k → w.heap.size ≤ k := fun k hk => (HO.out.lt k hk).1
            have hzz := HBe.out.size
            refine ⟨i + 1, zs, by go_num, by omega, by rw [domTo_succ, ← HY.out, HZs.out], Nat.le_trans hz1r o67.size, HO7.out, HBe.out.trans (o67.below hzz (fun k hk => hownB k hk)), Rd.only HR.out (fun k hk h => HAp.out k h hk) o67, fun k hk h => ?_⟩
            rcases HG7.out.at_ with h1 | ⟨g1, h1, h2⟩
            · exact HAp.out k (h1.symm.trans hk) h
            · have h3 := HKo.out k h
              have h4 : g1 = k := by have := h1.symm.trans hk; simpa using this
              rw [World.size_alloc] at h2
              omega
          case measure => simp [intOf]; omega
    obtain ⟨hi0, him⟩ := hA
    have HIm := hid him
    have HRe := hid (show Av (adj g) [] [0] i from (mem_order (adj_bd HOk.out) i).1 (mem_natI'.1 (by rw [HOd.out]; exact him)))
    clear him
    go_wp2_with fail
    go_loopw [6, 7] (fun b y wx => ∃ k : Nat, y = .int .i64 k ∧ k ≤ od.length ∧ b = .int .i64 (lastI (adj g) ((orderP (adj g)).take k) i) ∧ Below wr.heap.size wr wx) (fun _ y _ => od.length - (intOf y).toNat)
    case atStart => exact ⟨0, rfl, by omega, rfl, Below.refl _ _⟩
    case round =>
      obtain ⟨k, rfl, hk, rfl, hbx⟩ := hrel
      have HBk := hid hbx
      have HRk := hid (HR.out.on hbx)
      have HGk := hid (HG.out.on (HBe.out.trans (hbx.mono hzr)))
      have hzx := hbx.size
      clear hbx
      by_cases hkt : k < od.length
      · have hdec : decide ((i : Int) ∈ od) = true := decide_eq_true HIm.out
        have hko : k < (orderP (adj g)).length := by have := HOd.out; rw [← this, natI_len] at hkt; exact hkt
        have HT := hid (take_snoc (orderP (adj g)) k hko)
        have hpm : (orderP (adj g)).getD k 0 ∈ orderP (adj g) := by simp [hko]
        have hpe : od.getD k 0 = ((orderP (adj g)).getD k 0 : Nat) := by rw [← HOd.out, natI_get _ _ hko]
        obtain ⟨p, hpp⟩ : ∃ p, (orderP (adj g)).getD k 0 = p := ⟨_, rfl⟩
        rw [hpp] at HT hpm hpe
        have hpN := order_lt (adj_bd HOk.out) p hpm
        obtain ⟨a9, c9, e9, h9⟩ := HRk.out
        rcases h9 with h9 | ⟨b2, o2, rfl, hb2, hc2⟩
        · rw [h9] at hkt; simp at hkt
        simp only [Value.slice.injEq, true_and, and_true] at e9
        obtain ⟨rfl, rfl⟩ := e9
        have q1 := hc2 k hkt
        rw [hpe] at q1
        obtain ⟨y, hy⟩ : ∃ y, lastI (adj g) ((orderP (adj g)).take k) i = y := ⟨_, rfl⟩
        have HYk := hid hy
        rw [hy]
        clear hc2 hpe hpp hpm hko hy
        go_wp2_with fail
        refine (inList_c od i _ _ HRk.out (by omega)).mono ?_
        rintro e w2 ⟨rfl, rfl⟩
        rw [hdec]
        clear hdec
        by_cases hpi : p = i
        · subst hpi
          have HL9 := hid (show lastI (adj g) ((orderP (adj g)).take (k + 1)) p = y by rw [HT.out, lastI_snoc, if_neg (fun h => h.1 rfl)]; exact HYk.out)
          go_wp2_with fail
          go_roundw
          case rel => exact ⟨k + 1, by go_num, by omega, by rw [HL9.out], HBk.out⟩
          case measure => simp [intOf]; omega
        · have hpi2 : ¬ ((p : Int) = (i : Int)) := by omega
          go_wp2_with fail
          refine (without_c g B p _ _ HOk.out HGk.out hpN).mono ?_
          rintro e w3 ⟨gb, f, rfl, hbt, hf, hgb, hb3⟩
          have HB3 := hid (HBk.out.trans (hb3.mono hzx))
          have q2 := hbt.cell hlt
          have HF := hid (hf i hlt)
          have q3 := (hb3.cell (p := ⟨b2, o2 + k, none⟩) hb2).trans q1
          have HDm := hid (show i ∈ belowP (adj g) (p : Int) ↔ ¬ Av (adj g) [p] [0] i by
            rw [below_dm (adj_bd HOk.out)]
            exact ⟨fun h => h.2.elim (fun h1 => absurd h1.symm hpi) id, fun h => ⟨HRe.out, .inr h⟩⟩)
          cases hfi : f i
          · rw [hfi] at q2
            have HL9 := hid (show lastI (adj g) ((orderP (adj g)).take (k + 1)) i = p by rw [HT.out, lastI_snoc, if_pos ⟨hpi, HDm.out.2 (fun h => by have := HF.out.2 h; rw [hfi] at this; cases this)⟩])
            clear hbt hf hb3 hfi q1
            go_wp2_with fail
            go_roundw
            case rel => exact ⟨k + 1, by go_num, by omega, by rw [HL9.out], HB3.out⟩
            case measure => simp [intOf]; omega
          · rw [hfi] at q2
            have HL9 := hid (show lastI (adj g) ((orderP (adj g)).take (k + 1)) i = y by rw [HT.out, lastI_snoc, if_neg (fun h => HDm.out.1 h.2 (HF.out.1 hfi))]; exact HYk.out)
            clear hbt hf hb3 hfi q1
            go_wp2_with fail
            go_roundw
            case rel => exact ⟨k + 1, by go_num, by omega, by rw [HL9.out], HB3.out⟩
            case measure => simp [intOf]; omega
      · obtain rfl : k = od.length := by omega
        have hde : lastI (adj g) ((orderP (adj g)).take od.length) i = domI (adj g) i := by
          have h := HOd.out
          rw [← h, natI_len, List.take_length]
          rfl
        rw [hde]
        have HOx := hid (own_on HO.out HBk.out)
        have HBx := hid (HBe.out.trans (HBk.out.mono hzr))
        have HRx := hid HRk.out
        have hz1r := Nat.le_trans hz1r hzx
        clear hde
        go_wp2_with (at_builtin; refine app_ints _ rfl _ _ rfl w.heap.size ys [domI (adj g) i] _ rfl (HOx.out.alloc _) _ _ _ rfl rfl (SrcAt.at_ _ [domI (adj g) i] #[.int .i64 (domI (adj g) i)] _ 1 rfl (by simp) rfl) (by simp; omega) (by simp; omega) ?_; intro v7 w7 hg7; have HG7 := hid hg7; have hba := (Below.refl wr.heap.size wr).alloc (Nat.le_refl _) (.cells #[.int .i64 (domI (adj g) i)] 3); have HBa := hid hba; have hown7 := hg7.own; obtain ⟨zs, hzs⟩ : ∃ z, ys ++ [domI (adj g) i] = z := ⟨_, rfl⟩; rw [hzs] at hown7; have HZs := hid hzs; have HO7 := hid hown7; obtain ⟨s7, c7, rfl⟩ := own_slice hown7; clear hg7 hba hown7 hzs)
        go_wp2_with fail
        go_roundw
        case rel =>
          have o67 : Only (fun k => (Value.slice sv ys.length cv).ownBlock = some k) wr w7 := (Only.of_below HBa.out).trans (grows_only HG7.out)
          have hownB : ∀ k, (Value.slice sv ys.length cv).ownBlock = some k → w.heap.size ≤ k := fun k hk => (HOx.out.lt k hk).1
          have hzz := HBx.out.size
          refine ⟨i + 1, zs, by go_num, by omega, by rw [domTo_succ, ← HY.out, HZs.out], Nat.le_trans hz1r o67.size, HO7.out, HBx.out.trans (o67.below hzz (fun k hk => hownB k hk)), Rd.only HRx.out (fun k hk h => HAp.out k h hk) o67, fun k hk h => ?_⟩
          rcases HG7.out.at_ with h1 | ⟨g1, h1, h2⟩
          · exact HAp.out k (h1.symm.trans hk) h
          · have h3 := HKo.out k h
            have h4 : g1 = k := by have := h1.symm.trans hk; simpa using this
            rw [World.size_alloc] at h2
            omega
        case measure => simp [intOf]; omega
end Go.Proofs.Ytbbhbjdpdhbjlaa.Ge
