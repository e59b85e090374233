/- The term of a condition, by the program: condition, CondTerm. -/
import Derived.Test.YtgenojpdjplccaaDoorVt
set_option linter.unusedSimpArgs false
set_option linter.unusedVariables false
namespace Go.Proofs.YtgenojpdjplccaaDoor.Um
open Go.RowKit Pl Ft Mm In C2 Im

theorem own_four {w : World} {base : Nat} {e : TypeId} {size : Nat} {v : Value} {n : Nat} {xs : List Value} (h : w.ownsRow base e size v n xs) {g : Nat} (hg : g < base) (y0 y1 y2 y3 : Value) :
    ((((w.setCell ⟨g, 0, none⟩ y0).setCell ⟨g, 1, none⟩ y1).setCell ⟨g, 2, none⟩ y2).setCell ⟨g, 3, none⟩ y3).ownsRow base e size v n xs :=
  own_same h (fun b hb => four_far _ _ _ (by have := (h.lt b hb).1; omega) _ _ _ _ _ _ _ _)
theorem own_alloc {w : World} {base : Nat} {e : TypeId} {size : Nat} {v : Value} {n : Nat} {xs : List Value} (h : w.ownsRow base e size v n xs) (o : Obj) : (w.alloc o).ownsRow base e size v n xs :=
  own_on h ((Below.refl w.heap.size w).alloc (Nat.le_refl _) o)
theorem cond_hit : ∀ k, k < 9 → (oprs.getD k .none).asks = true → 0 ≤ (oprs.getD k .none).number ∧ (oprs.getD k .none).number ≤ 4 ∧ ∀ a b, condT (oprs.getD k .none).number a b = some (binT a (oprs.getD k .none).text b) ∧ condT ((oprs.getD k .none).number + 1) a b = some (notT (binT a (oprs.getD k .none).text b)) := by
  intro k hk h
  have h9 : k = 0 ∨ k = 1 ∨ k = 2 ∨ k = 3 ∨ k = 4 ∨ k = 5 ∨ k = 6 ∨ k = 7 ∨ k = 8 := by omega
  rcases h9 with rfl | rfl | rfl | rfl | rfl | rfl | rfl | rfl | rfl
  all_goals first | (exact absurd h (by decide)) | exact ⟨by decide, by decide, fun a b => ⟨rfl, rfl⟩⟩
theorem cond_miss {c : Int} (h : ∀ k, k < 9 → (oprs.getD k .none).asks = true → ¬ c = (oprs.getD k .none).number ∧ ¬ c = (oprs.getD k .none).number + 1) (a b : Tm) : condT c a b = none := by
  have h6 := h 6 (by omega) rfl
  have h7 := h 7 (by omega) rfl
  have h8 := h 8 (by omega) rfl
  simp [oprs] at h6 h7 h8
  unfold condT
  rw [if_neg (by omega), if_neg (by omega), if_neg (by omega), if_neg (by omega), if_neg (by omega), if_neg (by omega)]
theorem made_bin {w : World} {base n : Nat} {v va vb : Value} {a b : Tm} (hrow : w.ownsRow base 25 4 v 2 (tCells [a, b] [va, vb])) (ha : KRd w n va a.kids) (hb : KRd w n vb b.kids) : KRd w (n + 1) v [a, b] := by
  refine rd_of_own hrow rfl rfl (fun j hj => ?_)
  have hj2 : j = 0 ∨ j = 1 := by simp at hj; omega
  rcases hj2 with rfl | rfl
  · exact ha
  · exact hb
theorem made_not {w : World} {base n : Nat} {v va : Value} {a : Tm} (hrow : w.ownsRow base 25 4 v 1 (tCells [a] [va])) (ha : KRd w n va a.kids) : KRd w (n + 1) v [a] := by
  refine rd_of_own hrow rfl rfl (fun j hj => ?_)
  obtain rfl : j = 0 := by simpa using hj
  exact ha
def CdPost (n : Nat) (c : Int) (a b : Tm) (w : World) (e : Ending) (w' : World) : Prop :=
  ∃ v, e = .returned (.tuple #[tmVal ((condT c a b).getD tz) v, .bool (condT c a b).isSome]) ∧ KRd w' (n + 2) v ((condT c a b).getD tz).kids ∧ Below w.heap.size w w'
set_option maxRecDepth 100000 in
set_option maxHeartbeats 4000000 in
theorem condition_c (n : Nat) (c : Int) (a b : Tm) (va vb : Value) (w : World) (ha : KRd w n va a.kids) (hb : KRd w n vb b.kids) (hT : Tabs w) :
    Calls Tryd.prog 60 #[.int .i64 c, tmVal a va, tmVal b vb] w (CdPost n c a b w) := by
  obtain ⟨sa, ca, rfl⟩ := ha.slice
  obtain ⟨sb, cb, rfl⟩ := hb.slice
  have HA := hid ha
  have HB := hid hb
  clear ha hb
  obtain ⟨x0, x1, x2, la, hp⟩ := Pt.of a
  obtain ⟨y0, y1, y2, lb, hq⟩ := Pt.of b
  have HP := hid hp
  have HQ := hid hq
  rw [hp.l] at HA ⊢
  rw [hq.l] at HB ⊢
  rw [hp.val, hq.val]
  clear hp hq
  have hb1 := (Below.refl w.heap.size w).alloc (Nat.le_refl _) (.cells #[.int .i64 x0, .int .i64 x1, .string x2, .slice sa la ca] 25)
  have hb2 := hb1.alloc hb1.size (.cells #[.int .i64 y0, .int .i64 y1, .string y2, .slice sb lb cb] 25)
  have HB0 := hid (hb2.alloc hb2.size (.cells #[.int .i64 0, .int .i64 0, .string ⟨#[]⟩, .slice none 0 0] 25))
  have HX0 := hid (((Row.new w 25 #[.int .i64 x0, .int .i64 x1, .string x2, .slice sa la ca]).alloc (.cells #[.int .i64 y0, .int .i64 y1, .string y2, .slice sb lb cb] 25)).alloc (.cells #[.int .i64 0, .int .i64 0, .string ⟨#[]⟩, .slice none 0 0] 25))
  have HY0 := hid ((Row.new (w.alloc (.cells #[.int .i64 x0, .int .i64 x1, .string x2, .slice sa la ca] 25)) 25 #[.int .i64 y0, .int .i64 y1, .string y2, .slice sb lb cb]).alloc (.cells #[.int .i64 0, .int .i64 0, .string ⟨#[]⟩, .slice none 0 0] 25))
  have HZ0 := hid (Row.new ((w.alloc (.cells #[.int .i64 x0, .int .i64 x1, .string x2, .slice sa la ca] 25)).alloc (.cells #[.int .i64 y0, .int .i64 y1, .string y2, .slice sb lb cb] 25)) 25 #[.int .i64 0, .int .i64 0, .string ⟨#[]⟩, .slice none 0 0])
  simp only [World.size_alloc] at HY0 HZ0
  obtain ⟨t0, fr0, hb0⟩ := (hT.on HB0.out).o
  have HBk := hid hb0
  clear hb0 hT hb1 hb2
  go_enter Tryd.func60, Tryd.ntmps60
  go_wp2_with (refine wpList_load_row rfl 122 _ rfl 0 rfl _ opCells _ _ HBk.out Tryd.underlying122 rfl size_ops ?_)
  go_loopw [12] (fun i wr => ∃ k : Nat, i = .int .i64 k ∧ k ≤ 9 ∧ (∀ j, j < k → (oprs.getD j .none).asks = true → ¬ c = (oprs.getD j .none).number ∧ ¬ c = (oprs.getD j .none).number + 1) ∧ Row wr w.heap.size 25 #[.int .i64 x0, .int .i64 x1, .string x2, .slice sa la ca] ∧ Row wr (w.heap.size + 1) 25 #[.int .i64 y0, .int .i64 y1, .string y2, .slice sb lb cb] ∧ Row wr (w.heap.size + 1 + 1) 25 #[.int .i64 0, .int .i64 0, .string ⟨#[]⟩, .slice none 0 0] ∧ Below w.heap.size w wr) (fun i _ => 9 - (intOf i).toNat)
  case atStart => exact ⟨0, rfl, by omega, fun j hj => by omega, HX0.out, HY0.out, HZ0.out, HB0.out⟩
  case round =>
    obtain ⟨k, rfl, hk, hno, hrx, hry, hrz, hbel⟩ := hrel
    have HNo := hid hno
    have HX := hid hrx
    have HY := hid hry
    have HZ := hid hrz
    have HBe := hid hbel
    have hz := hbel.size
    have hlz := hrz.lt
    have hlx := hrx.lt
    have hly := hry.lt
    by_cases hlt : k < 9
    · have hidx := opr_index k hlt
      have hhit := cond_hit k hlt
      have HRl := hid (fun j (hj : j < k + 1) (hjk : ¬ j < k) => (show j = k by omega))
      obtain ⟨⟨t, bq, m⟩, ho⟩ : ∃ o, oprs.getD k .none = o := ⟨_, rfl⟩
      have HOe := hid ho
      rw [ho] at hidx hhit
      simp only [Opr.val] at hidx hhit
      have d0 := hrx.cell 0
      have d1 := hrx.cell 1
      have d2 := hrx.cell 2
      have d3 := hrx.cell 3
      have e0 := hry.cell 0
      have e1 := hry.cell 1
      have e2 := hry.cell 2
      have e3 := hry.cell 3
      simp at d0 d1 d2 d3 e0 e1 e2 e3
      clear hno hrx hry hrz hbel ho
      cases bq
      · go_wp2_with fail
        go_roundw
        case rel =>
          refine ⟨k + 1, by go_num, by omega, fun j hj hb => ?_, HX.out.alloc _, HY.out.alloc _, HZ.out.alloc _, HBe.out.alloc HBe.out.size _⟩
          by_cases hjk : j < k
          · exact HNo.out j hjk hb
          · have := HRl.out j hj hjk
            subst this
            rw [HOe.out] at hb
            cases hb
        case measure => simp [intOf]; omega
      · obtain ⟨m0, m4, hh⟩ := hhit rfl
        have HHit := hid hh
        clear hh hhit
        have HBa := hid (HBe.out.alloc HBe.out.size (.cells #[.string t, .bool true, .int .i64 m] 116))
        have HXa := hid (HX.out.alloc (.cells #[.string t, .bool true, .int .i64 m] 116))
        have HYa := hid (HY.out.alloc (.cells #[.string t, .bool true, .int .i64 m] 116))
        have HZa := hid (HZ.out.alloc (.cells #[.string t, .bool true, .int .i64 m] 116))
        have HOa := hid (Row.new wr 116 #[.string t, .bool true, .int .i64 m])
        go_wp2_with fail
        rw [← HP.out.val, ← HQ.out.val]
        refine (binTerm_c t a b _ _ _).mono ?_
        rintro e w3 ⟨s3, c3, rfl, hrow3, hb3⟩
        rw [HP.out.val, HQ.out.val]
        simp only [World.size_alloc] at hrow3
        have hv : tmVal (binT a t b) (.slice s3 (binT a t b).kids.length c3) = .agg #[.int .i64 2, .int .i64 0, .string t, .slice s3 2 c3] := rfl
        rw [hv]
        have HRow3 := hid (show w3.ownsRow (wr.heap.size + 1) 25 4 (.slice s3 2 c3) 2 (tCells [a, b] [.slice sa la ca, .slice sb lb cb]) from hrow3)
        have HB3 := hid (HBa.out.trans (hb3.mono HBa.out.size))
        have HX3 := hid (HXa.out.on hb3)
        have HY3 := hid (HYa.out.on hb3)
        have HZ3 := hid (HZa.out.on hb3)
        have HO3 := hid (HOa.out.on hb3)
        have hz3 := hb3.size
        simp only [World.size_alloc] at hz3
        clear hv hrow3 hb3 d0 d1 d2 d3 e0 e1 e2 e3
        have o0 := HO3.out.cell 0
        have o1 := HO3.out.cell 1
        have o2 := HO3.out.cell 2
        have z0 := HZ3.out.cell 0
        have z1 := HZ3.out.cell 1
        have z2 := HZ3.out.cell 2
        have z3 := HZ3.out.cell 3
        simp at o0 o1 o2 z0 z1 z2 z3
        have hzf := HZ3.out.free
        have hlo := HO3.out.lt
        have hlz3 := HZ3.out.lt
        have hm1 : (m + 1 : Int) ≤ 5 := by omega
        have HBf := hid (HB3.out.alloc HB3.out.size (.cells #[.int .i64 2, .int .i64 0, .string t, .slice s3 2 c3] 25))
        have HZf := hid (HZ3.out.alloc (.cells #[.int .i64 2, .int .i64 0, .string t, .slice s3 2 c3] 25))
        have HRowf := hid (own_alloc HRow3.out (.cells #[.int .i64 2, .int .i64 0, .string t, .slice s3 2 c3] 25))
        by_cases h1 : c = m
        · subst h1
          have HE := hid (HHit.out a b).1
          go_wp2_with fail
          clear z0 z1 z2 z3 o0 o1 o2 hzf
          refine bodyPost_ret (v := .tuple #[.agg #[.int .i64 2, .int .i64 0, .string t, .slice s3 2 c3], .bool true]) ?_ rfl ?_
          · exact results_cell_tmp Tryd.results60 _ _ (w.heap.size + 1 + 1) _ _ rfl ((four_row HZ3.out (.int .i64 2) (.int .i64 0) (.string t) (.slice s3 2 c3)).alloc (.cells #[.int .i64 2, .int .i64 0, .string t, .slice s3 2 c3] 25)) Tryd.underlying25 size_term
          · have hbg := four_bel HB3.out (show w.heap.size ≤ w.heap.size + 1 + 1 by omega) (.int .i64 2) (.int .i64 0) (.string t) (.slice s3 2 c3)
            have hbf := hbg.alloc hbg.size (.cells #[.int .i64 2, .int .i64 0, .string t, .slice s3 2 c3] 25)
            have hA := HA.out.on hbf
            have hB := HB.out.on hbf
            refine ⟨.slice s3 2 c3, by rw [HE.out]; rfl, ?_, hbf⟩
            rw [HE.out]
            exact (made_bin (own_alloc (own_four HRow3.out (show w.heap.size + 1 + 1 < wr.heap.size + 1 by omega) _ _ _ _) _) hA hB).mono (by omega)
        · by_cases h2 : c = m + 1
          · subst h2
            have HE := hid (HHit.out a b).2
            go_wp2_with fail
            have hv : Value.agg #[.int .i64 2, .int .i64 0, .string t, .slice s3 2 c3] = tmVal (binT a t b) (.slice s3 2 c3) := rfl
            rw [hv]
            refine (notTerm_c (binT a t b) _ _).mono ?_
            rintro e w4 ⟨s4, c4, rfl, hrow4, hb4⟩
            have hv2 : tmVal (notT (binT a t b)) (.slice s4 (notT (binT a t b)).kids.length c4) = .agg #[.int .i64 3, .int .i64 0, .string ⟨#[]⟩, .slice s4 1 c4] := rfl
            rw [hv2, ← hv]
            simp only [World.size_alloc] at hrow4
            have HRow4 := hid (show w4.ownsRow (w3.heap.size + 1) 25 4 (.slice s4 1 c4) 1 (tCells [binT a t b] [.slice s3 2 c3]) from hrow4)
            have HB4 := hid (HBf.out.trans (hb4.mono HBf.out.size))
            have HZ4 := hid (HZf.out.on hb4)
            have HRow5 := hid (own_on HRowf.out hb4)
            clear z0 z1 z2 z3 o0 o1 o2 hzf hv hv2 hrow4 hb4
            have z0 := HZ4.out.cell 0
            have z1 := HZ4.out.cell 1
            have z2 := HZ4.out.cell 2
            have z3 := HZ4.out.cell 3
            simp at z0 z1 z2 z3
            have hzf := HZ4.out.free
            go_wp2_with fail
            clear z0 z1 z2 z3 hzf
            refine bodyPost_ret (v := .tuple #[.agg #[.int .i64 3, .int .i64 0, .string ⟨#[]⟩, .slice s4 1 c4], .bool true]) ?_ rfl ?_
            · exact results_cell_tmp Tryd.results60 _ _ (w.heap.size + 1 + 1) _ _ rfl (four_row HZ4.out (.int .i64 3) (.int .i64 0) (.string ⟨#[]⟩) (.slice s4 1 c4)) Tryd.underlying25 size_term
            · have hbf := four_bel HB4.out (show w.heap.size ≤ w.heap.size + 1 + 1 by omega) (.int .i64 3) (.int .i64 0) (.string ⟨#[]⟩) (.slice s4 1 c4)
              have hA := HA.out.on hbf
              have hB := HB.out.on hbf
              refine ⟨.slice s4 1 c4, by rw [HE.out]; rfl, ?_, hbf⟩
              rw [HE.out]
              exact made_not (own_four HRow4.out (show w.heap.size + 1 + 1 < w3.heap.size + 1 by omega) _ _ _ _) (made_bin (own_four HRow5.out (show w.heap.size + 1 + 1 < wr.heap.size + 1 by omega) _ _ _ _) hA hB)
          · have HNe := hid (And.intro h1 h2)
            go_wp2_with fail
            go_roundw
            case rel =>
              refine ⟨k + 1, by go_num, by omega, fun j hj hb => ?_, HX3.out.alloc _, HY3.out.alloc _, HZ3.out.alloc _, HB3.out.alloc HB3.out.size _⟩
              by_cases hjk : j < k
              · exact HNo.out j hjk hb
              · have := HRl.out j hj hjk
                subst this
                rw [HOe.out]
                exact HNe.out
            case measure => simp [intOf]; omega
    · obtain rfl : k = 9 := by omega
      have HE := hid (cond_miss HNo.out a b)
      have z0 := HZ.out.cell 0
      have z1 := HZ.out.cell 1
      have z2 := HZ.out.cell 2
      have z3 := HZ.out.cell 3
      simp at z0 z1 z2 z3
      have hzf := HZ.out.free
      clear hno hrx hry hrz hbel
      go_wp2_with fail
      clear z0 z1 z2 z3 hzf
      refine bodyPost_ret (v := .tuple #[.agg #[.int .i64 0, .int .i64 0, .string ⟨#[]⟩, .slice none 0 0], .bool false]) ?_ rfl ?_
      · exact results_cell_tmp Tryd.results60 _ _ (w.heap.size + 1 + 1) _ _ rfl (four_row HZ.out (.int .i64 0) (.int .i64 0) (.string ⟨#[]⟩) (.slice none 0 0)) Tryd.underlying25 size_term
      · exact ⟨.slice none 0 0, by rw [HE.out]; rfl, by rw [HE.out]; exact KRd.nil _ _ _ _, four_bel HBe.out (show w.heap.size ≤ w.heap.size + 1 + 1 by omega) _ _ _ _⟩
theorem termOk_x {t : Tm} {x0 x1 : Int} {x2 : ByteArray} {lk : Nat} (hp : Pt t x0 x1 x2 lk) {n : Nat} {kv : Value} {w : World} (hr : KRd w n kv t.kids) (hw : t.wide ≤ 1048600) (hT : Tabs w) {b : Bool} (hb : termOk t = b) :
    Calls Tryd.prog 41 #[.agg #[.int .i64 x0, .int .i64 x1, .string x2, kv]] w fun e w' => e = .returned (.bool b) ∧ Below w.heap.size w w' := by
  subst hb
  rw [← hp.val]
  exact termOk_w n t kv w hr hw hT
def CtPost (c : Int) (a b : Tm) (w : World) (e : Ending) (w' : World) : Prop :=
  ∃ v, e = .returned (.tuple #[tmVal (condR c a b) v, .bool (condOk c a b)]) ∧ KOwn w' 14 w.heap.size w'.heap.size v (condR c a b).kids ∧ Below w.heap.size w w'
theorem ctPost_no {c : Int} {a b : Tm} {w w' : World} (h : condOk c a b = false) (h2 : condR c a b = tz) (hb : Below w.heap.size w w') : CtPost c a b w (.returned (.tuple #[.agg #[.int .i64 0, .int .i64 0, .string ⟨#[]⟩, .slice none 0 0], .bool false])) w' :=
  ⟨.slice none 0 0, by rw [h, h2]; rfl, by rw [h2]; exact KOwn.empty hb.size ⟨by simp, .inl ⟨rfl, rfl⟩⟩ (fun r h => by cases h), hb⟩
set_option maxRecDepth 100000 in
set_option maxHeartbeats 4000000 in
theorem condTerm_c (n : Nat) (c : Int) (a b : Tm) (va vb : Value) (w : World) (ha : KRd w n va a.kids) (hb : KRd w n vb b.kids) (hw : a.wide + b.wide ≤ 1048576) (hT : Tabs w) :
    Calls Tryd.prog 24 #[.int .i64 c, tmVal a va, tmVal b vb] w (CtPost c a b w) := by
  obtain ⟨sa, ca, rfl⟩ := ha.slice
  obtain ⟨sb, cb, rfl⟩ := hb.slice
  have HA := hid ha
  have HB := hid hb
  have HT := hid hT
  have hcw := cond_wide c a b
  have HW := hid (show ((condT c a b).getD tz).wide ≤ 1048600 by omega)
  clear ha hb hT hw hcw
  obtain ⟨x0, x1, x2, la, hp⟩ := Pt.of a
  obtain ⟨y0, y1, y2, lb, hq⟩ := Pt.of b
  have HP := hid hp
  have HQ := hid hq
  rw [hp.l] at HA ⊢
  rw [hq.l] at HB ⊢
  rw [hp.val, hq.val]
  clear hp hq
  have hb1 := (Below.refl w.heap.size w).alloc (Nat.le_refl _) (.cells #[.int .i64 x0, .int .i64 x1, .string x2, .slice sa la ca] 25)
  have hb2 := hb1.alloc hb1.size (.cells #[.int .i64 y0, .int .i64 y1, .string y2, .slice sb lb cb] 25)
  have HB0 := hid (hb2.alloc hb2.size (.cells #[.int .i64 0, .int .i64 0, .string ⟨#[]⟩, .slice none 0 0] 25))
  have HZ0 := hid (Row.new ((w.alloc (.cells #[.int .i64 x0, .int .i64 x1, .string x2, .slice sa la ca] 25)).alloc (.cells #[.int .i64 y0, .int .i64 y1, .string y2, .slice sb lb cb] 25)) 25 #[.int .i64 0, .int .i64 0, .string ⟨#[]⟩, .slice none 0 0])
  simp only [World.size_alloc] at HZ0
  clear hb1 hb2
  go_enter Tryd.func24, Tryd.ntmps24
  go_wp2_with fail
  rw [← HP.out.val, ← HQ.out.val]
  refine (condition_c n c a b _ _ _ (HA.out.on HB0.out) (HB.out.on HB0.out) (HT.out.on HB0.out)).mono ?_
  rintro e w1 ⟨v1, rfl, hk1, hb1⟩
  rw [HP.out.val, HQ.out.val]
  have HNo := hid (cond_none (c := c) (a := a) (b := b))
  have HSo := hid (cond_some (c := c) (a := a) (b := b))
  obtain ⟨T, hTm⟩ : ∃ t, (condT c a b).getD tz = t := ⟨_, rfl⟩
  obtain ⟨ok, hok⟩ : ∃ t, (condT c a b).isSome = t := ⟨_, rfl⟩
  rw [hTm] at hk1 HW HSo ⊢
  rw [hok] at HNo HSo ⊢
  clear hTm hok
  obtain ⟨s1, c1, rfl⟩ := hk1.slice
  obtain ⟨z0, z1, z2, lz, hp3⟩ := Pt.of T
  rw [hp3.val]
  have HP3 := hid hp3
  have HK1 := hid hk1
  rw [hp3.l] at HK1 ⊢
  have HB1 := hid (HB0.out.trans (hb1.mono HB0.out.size))
  have HZ1 := hid (HZ0.out.on hb1)
  clear hk1 hp3 hb1
  have HAl := hid ((Below.refl w1.heap.size w1).alloc (Nat.le_refl _) (.cells #[.int .i64 z0, .int .i64 z1, .string z2, .slice s1 lz c1] 25))
  have HB2 := hid (HB1.out.trans (HAl.out.mono HB1.out.size))
  have HZ2 := hid (HZ1.out.on HAl.out)
  have HV2 := hid (Row.new w1 25 #[.int .i64 z0, .int .i64 z1, .string z2, .slice s1 lz c1])
  have hlz1 := HZ1.out.lt
  cases ok
  · have r0 := HZ1.out.cell 0
    have r1 := HZ1.out.cell 1
    have r2 := HZ1.out.cell 2
    have r3 := HZ1.out.cell 3
    simp at r0 r1 r2 r3
    have hfr := HZ1.out.free
    obtain ⟨e1, e2⟩ := HNo.out rfl
    have HE1 := hid e1
    have HE2 := hid e2
    clear e1 e2
    go_wp2_with fail
    clear r0 r1 r2 r3 hfr
    refine bodyPost_ret (v := .tuple #[.agg #[.int .i64 0, .int .i64 0, .string ⟨#[]⟩, .slice none 0 0], .bool false]) ?_ rfl ?_
    · exact results_cell_tmp Tryd.results24 _ _ (w.heap.size + 1 + 1) _ _ rfl ((four_row HZ1.out (.int .i64 0) (.int .i64 0) (.string ⟨#[]⟩) (.slice none 0 0)).alloc _) Tryd.underlying25 size_term
    · have hbg := four_bel HB1.out (show w.heap.size ≤ w.heap.size + 1 + 1 by omega) (.int .i64 0) (.int .i64 0) (.string ⟨#[]⟩) (.slice none 0 0)
      exact ctPost_no HE1.out HE2.out (hbg.alloc hbg.size _)
  · obtain ⟨e1, e2⟩ := HSo.out rfl
    have HE1 := hid e1
    have HE2 := hid e2
    clear e1 e2
    cases hto : termOk T
    · have HTo := hid hto
      clear hto
      go_wp2_with fail
      refine (termOk_x HP3.out (HK1.out.on HAl.out) HW.out (HT.out.on HB2.out) HTo.out).mono ?_
      rintro e w2 ⟨rfl, hb2⟩
      have HB3 := hid (HB2.out.trans (hb2.mono HB2.out.size))
      have HZ3 := hid (HZ2.out.on hb2)
      clear hb2
      have r0 := HZ3.out.cell 0
      have r1 := HZ3.out.cell 1
      have r2 := HZ3.out.cell 2
      have r3 := HZ3.out.cell 3
      simp at r0 r1 r2 r3
      have hfr := HZ3.out.free
      go_wp2_with fail
      clear r0 r1 r2 r3 hfr
      refine bodyPost_ret (v := .tuple #[.agg #[.int .i64 0, .int .i64 0, .string ⟨#[]⟩, .slice none 0 0], .bool false]) ?_ rfl ?_
      · exact results_cell_tmp Tryd.results24 _ _ (w.heap.size + 1 + 1) _ _ rfl (four_row HZ3.out (.int .i64 0) (.int .i64 0) (.string ⟨#[]⟩) (.slice none 0 0)) Tryd.underlying25 size_term
      · exact ctPost_no (by rw [HE1.out, HTo.out]) (by rw [HE2.out, HTo.out]; rfl) (four_bel HB3.out (show w.heap.size ≤ w.heap.size + 1 + 1 by omega) _ _ _ _)
    · have HTo := hid hto
      have HSh := hid (termOk_bd hto).1
      clear hto
      go_wp2_with fail
      refine (termOk_x HP3.out (HK1.out.on HAl.out) HW.out (HT.out.on HB2.out) HTo.out).mono ?_
      rintro e w2 ⟨rfl, hb2⟩
      have HB3 := hid (HB2.out.trans (hb2.mono HB2.out.size))
      have HZ3 := hid (HZ2.out.on hb2)
      have HV3 := hid (HV2.out.on hb2)
      have HK3 := hid ((HK1.out.on HAl.out).on hb2)
      clear hb2
      have v0 := HV3.out.cell 0
      have v1 := HV3.out.cell 1
      have v2 := HV3.out.cell 2
      have v3 := HV3.out.cell 3
      simp at v0 v1 v2 v3
      go_wp2_with fail
      rw [← HP3.out.val]
      refine (copied_c 14 (n + 2) T _ _ HK3.out HSh.out).mono ?_
      rintro e w4 ⟨v4, rfl, hown4, hb4⟩
      rw [HP3.out.val]
      obtain ⟨s4, c4, rfl⟩ := hown4.slice
      have HOwn4 := hid hown4
      rw [HP3.out.l] at HOwn4 ⊢
      have HB4 := hid (HB3.out.trans (hb4.mono HB3.out.size))
      have HZ4 := hid (HZ3.out.on hb4)
      have hlz3 := HZ3.out.lt
      have hz3 := HB3.out.size
      clear hown4 hb4 v0 v1 v2 v3
      have r0 := HZ4.out.cell 0
      have r1 := HZ4.out.cell 1
      have r2 := HZ4.out.cell 2
      have r3 := HZ4.out.cell 3
      simp at r0 r1 r2 r3
      have hfr := HZ4.out.free
      go_wp2_with fail
      clear r0 r1 r2 r3 hfr
      refine bodyPost_ret (v := .tuple #[.agg #[.int .i64 z0, .int .i64 z1, .string z2, .slice s4 lz c4], .bool true]) ?_ rfl ?_
      · exact results_cell_tmp Tryd.results24 _ _ (w.heap.size + 1 + 1) _ _ rfl (four_row HZ4.out (.int .i64 z0) (.int .i64 z1) (.string z2) (.slice s4 lz c4)) Tryd.underlying25 size_term
      · have hR : condR c a b = T := by rw [HE2.out, HTo.out]; rfl
        refine ⟨.slice s4 lz c4, by rw [hR, HE1.out, HTo.out, HP3.out.val], ?_, four_bel HB4.out (show w.heap.size ≤ w.heap.size + 1 + 1 by omega) _ _ _ _⟩
        rw [hR, four_size]
        refine (HOwn4.out.keep (fun b h1 h2 h3 => ?_)).widen (by omega) (Nat.le_refl _)
        rw [four_far _ _ _ (by omega)]
end Go.Proofs.YtgenojpdjplccaaDoor.Um
