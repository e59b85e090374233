/- varOf, value of the model. -/
import Derived.Test.YtlgnakhfkpjioaaDoorUr
import Derived.Test.YtlgnakhfkpjioaaDoorApp
set_option linter.unusedSimpArgs false
set_option linter.unusedVariables false
namespace Go.Proofs.YtlgnakhfkpjioaaDoor.Um
open Go.RowKit Pl Ft Mm In C2 Im

theorem varIn_at {l : List Nm} {s : ByteArray} {k : Nat} (hk : k < l.length) (h : ((l.getD k .none).text.toList == s.toList) = true) (hn : ∀ j, k < j → j < l.length → ((l.getD j .none).text.toList == s.toList) = false) : varIn l s = (l.getD k .none).at_ := by
  have e : l = l.take k ++ (l.getD k .none :: l.drop (k + 1)) := by
    have e1 : l.drop k = l[k] :: l.drop (k + 1) := List.drop_eq_getElem_cons hk
    have e2 : l.getD k .none = l[k] := by simp [hk]
    rw [e2, ← e1, List.take_append_drop]
  have hd : (l.drop (k + 1)).reverse.find? (fun v => v.text.toList == s.toList) = none := by
    rw [List.find?_eq_none]
    intro x hx
    obtain ⟨j, hj, rfl⟩ := List.mem_iff_getElem.1 (List.mem_reverse.1 hx)
    rw [List.length_drop] at hj
    have := hn (k + 1 + j) (by omega) (by omega)
    rw [List.getElem_drop]
    have e3 : l.getD (k + 1 + j) .none = l[k + 1 + j] := by simp [show k + 1 + j < l.length by omega]
    rw [← e3, this]
    simp
  unfold varIn
  rw [congrArg List.reverse e, List.reverse_append, List.reverse_cons, List.append_assoc, List.find?_append, hd, Option.none_or, List.singleton_append, List.find?_cons, h]
  rfl
theorem varIn_no {l : List Nm} {s : ByteArray} (hn : ∀ j, j < l.length → ((l.getD j .none).text.toList == s.toList) = false) : varIn l s = 0 := by
  unfold varIn
  have : l.reverse.find? (fun v => v.text.toList == s.toList) = none := by
    rw [List.find?_eq_none]
    intro x hx
    obtain ⟨j, hj, rfl⟩ := List.mem_iff_getElem.1 (List.mem_reverse.1 hx)
    have e3 : l.getD j .none = l[j] := by simp [hj]
    rw [← e3, hn j hj]
    simp
  rw [this]; rfl
set_option maxHeartbeats 1000000 in
theorem varOf_c (l : List Nm) (v : Value) (s : ByteArray) (w : World) (hr : NRd w v l) (hl : l.length ≤ 1048576) :
    Calls Tryd.prog 107 #[v, .string s] w fun e w' => e = .returned (.int .i64 (varIn l s)) ∧ w' = w := by
  obtain ⟨a, cap, rfl, ha⟩ := hr
  have HA := hid ha
  clear ha
  go_enter Tryd.func107, Tryd.ntmps107
  go_wp2_with fail
  go_loop [5] (fun c => ∃ i : Int, c = .int .i64 i ∧ -1 ≤ i ∧ i < l.length ∧ ∀ j : Nat, i < (j : Int) → j < l.length → ((l.getD j .none).text.toList == s.toList) = false) (fun c => (intOf c + 1).toNat)
  case atStart => exact ⟨_, rfl, by omega, by omega, fun j h1 h2 => by omega⟩
  case round =>
    obtain ⟨i, rfl, h0, h1, hno⟩ := hrel
    have HNo := hid hno
    clear hno
    by_cases hi : 0 ≤ i
    · obtain ⟨k, rfl⟩ := Int.eq_ofNat_of_zero_le hi
      have hlt : k < l.length := by omega
      rcases HA.out with h | ⟨g, o, rfl, hg, hc⟩
      · subst h; simp at hlt
      obtain ⟨q0, q1⟩ := hc k hlt
      have HP := hid (fun h => varIn_at hlt (s := s) h (fun j hj hjl => HNo.out j (by omega) hjl))
      obtain ⟨⟨t, x⟩, hx⟩ : ∃ x, l.getD k .none = x := ⟨_, rfl⟩
      rw [hx] at q0 q1 HP
      have HX := hid hx
      simp only at q0 q1 HP
      clear hc hx
      cases hb : (t.toList == s.toList)
      · have HBv := hid hb
        go_wp2_with fail
        go_round
        case rel =>
          refine ⟨(k : Int) - 1, rfl, by omega, by omega, fun j hj hjl => ?_⟩
          by_cases hjk : (k : Int) < j
          · exact HNo.out j hjk hjl
          · obtain rfl : j = k := by omega
            rw [HX.out]
            exact HBv.out
        case measure => simp [intOf]
      · have HBv := hid (HP.out hb)
        go_wp2_with fail
        go_ret
        exact ⟨int_eq HBv.out.symm, rfl⟩
    · have hi1 : i = -1 := by omega
      subst hi1
      have HP := hid (varIn_no (l := l) (s := s) (fun j hj => HNo.out j (by omega) hj))
      go_wp2_with fail
      go_ret
      exact ⟨int_eq HP.out.symm, rfl⟩
theorem memAt_v {mem : List Int} {vars : List Nm} {v : Value} {w : World} (hr : Rd w v mem) (hok : EnvOk vars mem) {a : Int} (ha : isW a = true) (wide : Nat) (hw : wide = 1 ∨ wide = 2) :
    Calls Tryd.prog 110 #[v, .int .i64 a, .int .i64 wide] w fun e w' => e = .returned (memVal (memIn mem a wide)) ∧ Below w.heap.size w w' := by
  obtain ⟨h0, h1⟩ := isW_iff.1 ha
  exact memAt_c mem v a wide w hr hw h0 h1 hok.ml hok.mb
set_option maxRecDepth 100000 in
set_option maxHeartbeats 8000000 in
theorem sValue_c (vars : List Nm) (mem : List Int) (hok : EnvOk vars mem) (h : Nat) : ∀ (n : Nat) (t : Tm) (kv vl vm : Value) (w : World), KRd w n kv t.kids → t.wide ≤ 1048576 → shape h t = true → NRd w vl vars → Rd w vm mem →
    Calls Tryd.prog 68 #[tmVal t kv, vl, vm] w fun e w' => e = .returned (memVal (valT vars mem h t)) ∧ Below w.heap.size w w' := by
  induction h with
  | zero => intro n t kv vl vm w _ _ hs; simp [shape] at hs
  | succ h ih =>
    intro n t kv vl vm w hr hw hs hvl hvm
    obtain ⟨hf, hks⟩ := shape_at hs
    have HI := hid ih
    have HR := hid hr
    have HSh := hid hks
    have HVl := hid hvl
    have HVm := hid hvm
    have HOk := hid hok
    have HF := hid hf
    have HW := hid (wide_eq t)
    have hk2 := form_kids hf
    have hkf := hf
    obtain ⟨hk0, hk5⟩ := form_kind hf
    have htl : t.text.size ≤ 1048576 := by have := HW.out; omega
    have HWd := hid hw
    clear ih hks hok hf hs hw
    obtain ⟨sl, cl, rfl, _⟩ := hvl
    obtain ⟨sm, cm, rfl, _⟩ := hvm
    have hlv := HOk.out.long
    have hlm := HOk.out.ml
    obtain ⟨lv, hlv2⟩ : ∃ l, vars.length = l := ⟨_, rfl⟩
    obtain ⟨lm, hlm2⟩ : ∃ l, mem.length = l := ⟨_, rfl⟩
    rw [hlv2] at HVl ⊢
    rw [hlm2] at HVm ⊢
    clear hlv hlm hlv2 hlm2
    obtain ⟨a, cap, rfl⟩ := hr.slice
    clear hr
    have HV := hid (show valT vars mem (h + 1) t = (allV (valT vars mem h) t.kids).bind (combine vars mem t) from rfl)
    have HVw := hid (fun k (hk : k < t.kids.length) x (hx : valT vars mem h (t.kids.getD k tz) = some x) => valT_word HOk.out h _ (HSh.out k hk) x hx)
    obtain ⟨x0, x1, x2, lk, hp⟩ := Pt.of t
    rw [hp.val]
    have HP := hid hp
    have hlk := hp.l
    have hfk : formOf x0 x1 x2 lk = true := by
      have := hkf
      unfold Tm.form at this
      rwa [hp.k, hp.n, hp.s, hp.l] at this
    have HFk := hid hfk
    rw [hp.k] at hk0 hk5
    rw [hp.s] at htl
    rw [hlk] at HR HVw hk2 HSh ⊢
    clear hp hkf hfk
    obtain ⟨ks, hks⟩ : ∃ l, t.kids = l := ⟨_, rfl⟩
    rw [hks] at HR HV HVw hlk HSh HW
    clear hks
    subst hlk
    have ha1 := (Below.refl w.heap.size w).alloc (Nat.le_refl _) (.cells #[.int .i64 x0, .int .i64 x1, .string x2, .slice a ks.length cap] 29)
    have HB0 := hid (ha1.alloc ha1.size (.cells #[] 3))
    have HX0 := hid ((Row.new w 29 #[.int .i64 x0, .int .i64 x1, .string x2, .slice a ks.length cap]).alloc (.cells #[] 3))
    have HO0 := hid (own_lit (w.alloc (.cells #[.int .i64 x0, .int .i64 x1, .string x2, .slice a ks.length cap] 29)) [] #[] rfl (by simp) 0 rfl)
    simp only [World.size_alloc] at HO0
    clear ha1
    go_enter Tryd.func68, Tryd.ntmps68
    go_wp2_with fail
    go_loopw [8, 9] (fun vk c wr => ∃ (k : Nat) (xs : List Int), c = .int .i64 k ∧ k ≤ ks.length ∧ allV (valT vars mem h) (ks.take k) = some xs ∧ xs.length = k ∧ (∀ j, isW (xs.getD j 0) = true) ∧ wr.ownsRow (w.heap.size + 1) 3 1 vk xs.length (ints xs) ∧ Row wr w.heap.size 29 #[.int .i64 x0, .int .i64 x1, .string x2, .slice a ks.length cap] ∧ Below w.heap.size w wr) (fun _ c _ => ks.length - (intOf c).toNat)
    case atStart => exact ⟨0, [], rfl, by omega, rfl, rfl, fun j => rfl, HO0.out, HX0.out, HB0.out⟩
    case round =>
      obtain ⟨k, xs, rfl, hk, hall, hxl, hxw, hown, hrx, hbel⟩ := hrel
      have HAll := hid hall
      have HXl := hid hxl
      have HXw := hid hxw
      have HOwn := hid hown
      have HRx := hid hrx
      have HBe := hid hbel
      have hz := hbel.size
      have hlx := hrx.lt
      have d0 := hrx.cell 0
      have d1 := hrx.cell 1
      have d2 := hrx.cell 2
      have d3 := hrx.cell 3
      simp at d0 d1 d2 d3
      clear hall hxl hxw hrx
      by_cases hlt : k < ks.length
      · obtain ⟨m, b, o, cap', rfl, hv, hg, hc⟩ := HR.out.cells (by omega)
        simp only [Value.slice.injEq, true_and] at hv
        obtain ⟨rfl, rfl⟩ := hv
        obtain ⟨u, c0, c1, c2, c3, hru⟩ := hc k hlt
        have q0 := (HBe.out.cell (p := ⟨b, o + k * 4, none⟩) hg).trans c0
        have q1 := (HBe.out.cell (p := ⟨b, o + k * 4 + 1, none⟩) hg).trans c1
        have q2 := (HBe.out.cell (p := ⟨b, o + k * 4 + 2, none⟩) hg).trans c2
        have q3 := (HBe.out.cell (p := ⟨b, o + k * 4 + 3, none⟩) hg).trans c3
        have hwk := wides_at ks k hlt
        have HWk := hid (show (ks.getD k tz).wide ≤ 1048576 by have := HW.out; have := HWd.out; omega)
        have HSk := hid (HSh.out k (by omega))
        have HVk := hid (HVw.out k (by omega))
        have HSn := hid (fun x hx => allV_snoc hlt HAll.out (x := x) hx)
        have HNn := hid (fun hx => allV_none (f := valT vars mem h) hlt hx)
        clear hwk hown
        obtain ⟨t2, ht⟩ : ∃ t, ks.getD k tz = t := ⟨_, rfl⟩
        rw [ht] at q0 q1 q2 hru HWk HSk HVk HSn HNn
        have HRu := hid (hru.on HBe.out)
        clear hc c0 c1 c2 c3 hru ht
        obtain ⟨y0, y1, y2, ly, hq⟩ := Pt.of t2
        rw [hq.k] at q0
        rw [hq.n] at q1
        rw [hq.s] at q2
        have HQ := hid hq
        clear hq hbel
        go_wp2_with fail
        rw [← HQ.out.val]
        refine (HI.out m t2 u _ _ _ HRu.out HWk.out HSk.out (HVl.out.on HBe.out) (HVm.out.on HBe.out)).mono ?_
        rw [HQ.out.val]
        rintro e w3 ⟨rfl, hb3⟩
        have HB3 := hid (HBe.out.trans (hb3.mono hz))
        have HRx3 := hid (HRx.out.on hb3)
        have HOwn3 := hid (own_on HOwn.out hb3)
        have hz3 := hb3.size
        clear hb3 q0 q1 q2 q3 d0 d1 d2 d3
        obtain ⟨r, hr⟩ : ∃ r, valT vars mem h t2 = r := ⟨_, rfl⟩
        rw [hr] at HVk HSn HNn ⊢
        clear hr
        cases r with
        | none =>
          have HNo := hid (show valT vars mem (h + 1) t = none by rw [HV.out, HNn.out rfl]; rfl)
          show _
          unfold memVal
          simp only [Option.getD_none, Option.isSome_none]
          go_wp2_with fail
          go_ret2
          exact ⟨by rw [HNo.out]; rfl, HB3.out⟩
        | some x =>
          have HXx := hid (HVk.out x rfl)
          have HSx := hid (HSn.out x rfl)
          have hx2 : xs.length ≤ 2 := by have := HXl.out; omega
          have HX2 := hid hx2
          clear hx2
          unfold memVal
          simp only [Option.getD_some, Option.isSome_some]
          obtain ⟨sk, ck, hvk⟩ := own_slice HOwn3.out
          go_wp2_with (at_builtin; refine app_ints _ rfl _ _ rfl (w.heap.size + 1) xs [x] _ rfl (own_on HOwn3.out ((Below.refl _ _).alloc (Nat.le_refl _) _)) _ _ _ rfl rfl (SrcAt.at_ _ [x] #[.int .i64 x] _ 1 rfl (by simp) rfl) (by have := HX2.out; simp only [List.length_cons, List.length_nil]; omega) (by simp; omega) ?_)
          intro v5 w5 hg5
          have HG5 := hid hg5
          clear hg5 hvk
          go_wp2_with fail
          go_roundw
          case rel =>
            have hbl := (HB3.out.alloc HB3.out.size (.cells #[.int .i64 x] 3)).trans (HG5.out.bel.mono (Nat.le_succ _))
            refine ⟨k + 1, xs ++ [x], by go_num, by omega, HSx.out, by simp [HXl.out], fun j => ?_, HG5.out.own, (HRx3.out.alloc _).below HG5.out.bel (Nat.lt_succ_self _), hbl⟩
            by_cases hj : j < xs.length
            · have := HXw.out j
              rwa [List.getD_eq_getElem?_getD, List.getElem?_append_left hj, ← List.getD_eq_getElem?_getD]
            · by_cases hj2 : j = xs.length
              · subst hj2
                rw [List.getD_eq_getElem?_getD, List.getElem?_append_right (Nat.le_refl _), Nat.sub_self]
                exact HXx.out
              · rw [List.getD_eq_getElem?_getD, List.getElem?_eq_none (by simp; omega)]
                rfl
          case measure => simp [intOf]; omega
      · obtain rfl : k = ks.length := by omega
        have hall2 := HAll.out
        rw [List.take_length] at hall2
        have HV2 := hid (show valT vars mem (h + 1) t = combine vars mem t xs by rw [HV.out, hall2]; rfl)
        obtain ⟨z0, hz0⟩ : ∃ z, xs.getD 0 0 = z := ⟨_, rfl⟩
        obtain ⟨z1, hz1⟩ : ∃ z, xs.getD 1 0 = z := ⟨_, rfl⟩
        have HCb := hid (show combine vars mem t xs = if x0 = 0 then some x1 else if x0 = 1 then some (varIn vars x2) else if x0 = 2 then some (opVal x2 z0 z1) else if x0 = 3 then some (if z0 = 0 then 1 else 0) else memIn mem z0 (if x0 = 4 then 2 else 1) by
          unfold combine
          rw [HP.out.k, HP.out.n, HP.out.s, hz0, hz1])
        have HW0 := hid (HXw.out 0)
        have HW1 := hid (HXw.out 1)
        rw [hz0] at HW0
        rw [hz1] at HW1
        have HZ0 := hid hz0
        have HZ1 := hid hz1
        clear hall2 hbel hz0 hz1
        have hk6 : x0 = 0 ∨ x0 = 1 ∨ x0 = 2 ∨ x0 = 3 ∨ x0 = 4 ∨ x0 = 5 := by omega
        rcases hk6 with rfl | rfl | rfl | rfl | rfl | rfl
        · clear hown
          go_wp2_with fail
          go_ret2
          exact ⟨by rw [HV2.out, HCb.out]; rfl, HBe.out⟩
        · clear hown
          go_wp2_with fail
          refine (varOf_c vars _ x2 _ (HVl.out.on HBe.out) (by have := HOk.out.long; omega)).mono ?_
          rintro e w4 ⟨rfl, rfl⟩
          obtain ⟨y, hy⟩ : ∃ y, varIn vars x2 = y := ⟨_, rfl⟩
          rw [hy]
          have HY := hid hy
          clear hy
          go_wp2_with fail
          go_ret2
          exact ⟨by rw [HV2.out, HCb.out, HY.out]; rfl, HBe.out⟩
        · obtain rfl : xs = [z0, z1] := by
            have hl := HXl.out
            have hz := HZ0.out
            have hz' := HZ1.out
            have h1 : ks.length = 2 := by
              have := HFk.out
              simp [formOf] at this
              omega
            cases xs with
            | nil => simp at hl; omega
            | cons p l => cases l with
              | nil => simp at hl; omega
              | cons q l => cases l with
                | nil => have hpz : p = z0 := hz
                         have hqz : q = z1 := hz'
                         rw [hpz, hqz]
                | cons q l => simp at hl; omega
          have HOp := hid (show isOp x2 = true by
            have := HFk.out
            simp [formOf] at this
            exact this.2.1)
          obtain ⟨g, cap2, rfl, hg1, hg2⟩ := own_addr HOwn.out (by simp)
          have e0 := hown.cellAt 0 (by simp)
          have e1 := hown.cellAt 1 (by simp)
          have e0' : wr.cell? ⟨g, 0, none⟩ = some (.int .i64 z0) := e0
          have e1' : wr.cell? ⟨g, 1, none⟩ = some (.int .i64 z1) := e1
          clear hown e0 e1
          go_wp2_with fail
          go_region_with (go_at_call 108; refine (binary_c x2 z0 z1 _ HOp.out HW0.out HW1.out).mono ?_; rintro e w4 ⟨rfl, hb4⟩; have HB4 := hid (HBe.out.drew.trans (hb4.mono HBe.out.drew.size)); clear hb4)
          all_goals
            obtain ⟨y, hy⟩ : ∃ y, opVal x2 z0 z1 = y := ⟨_, rfl⟩
            rw [hy]
            have HY := hid hy
            clear hy
            go_wp2_with fail
            go_ret2
            exact ⟨by rw [HV2.out, HCb.out]; simp only [HY.out]; rfl, HB4.out⟩
        · obtain rfl : xs = [z0] := by
            have hl := HXl.out
            have hz := HZ0.out
            have h1 : ks.length = 1 := by
              have := HFk.out
              simp [formOf] at this
              omega
            cases xs with
            | nil => simp at hl; omega
            | cons p l => cases l with
              | nil => have hpz : p = z0 := hz
                       rw [hpz]
              | cons q l => simp at hl; omega
          obtain ⟨g, cap2, rfl, hg1, hg2⟩ := own_addr HOwn.out (by simp)
          have e0 := hown.cellAt 0 (by simp)
          have e0' : wr.cell? ⟨g, 0, none⟩ = some (.int .i64 z0) := e0
          clear hown e0
          go_wp2_with fail
          refine (bit_c _ _).mono ?_
          rintro e w4 ⟨rfl, rfl⟩
          obtain ⟨y, hy⟩ : ∃ y : Int, (if (z0 == 0) = true then (1 : Int) else 0) = y := ⟨_, rfl⟩
          rw [hy]
          have HY := hid (show (if z0 = 0 then (1 : Int) else 0) = y by rw [← hy]; simp)
          clear hy
          go_wp2_with fail
          go_ret2
          exact ⟨by rw [HV2.out, HCb.out]; simp [memVal, HY.out], HBe.out⟩
        · obtain rfl : xs = [z0] := by
            have hl := HXl.out
            have hz := HZ0.out
            have h1 : ks.length = 1 := by
              have := HFk.out
              simp [formOf] at this
              omega
            cases xs with
            | nil => simp at hl; omega
            | cons p l => cases l with
              | nil => have hpz : p = z0 := hz
                       rw [hpz]
              | cons q l => simp at hl; omega
          obtain ⟨g, cap2, rfl, hg1, hg2⟩ := own_addr HOwn.out (by simp)
          have e0 := hown.cellAt 0 (by simp)
          have e0' : wr.cell? ⟨g, 0, none⟩ = some (.int .i64 z0) := e0
          clear hown e0
          go_wp2_with fail
          refine (memAt_v (HVm.out.on HBe.out) HOk.out HW0.out 2 (by omega)).mono ?_
          rintro e w4 ⟨rfl, hb4⟩
          have HB4 := hid (HBe.out.trans (hb4.mono hz))
          obtain ⟨r, hr⟩ : ∃ r, memIn mem z0 2 = r := ⟨_, rfl⟩
          have HRr := hid hr
          rw [hr]
          have HF2 := hid (show valT vars mem (h + 1) t = r by rw [HV2.out, HCb.out]; simpa using HRr.out)
          clear hb4 hr
          obtain ⟨r1, hr1⟩ : ∃ x, r.getD 0 = x := ⟨_, rfl⟩
          obtain ⟨r2, hr2⟩ : ∃ x, r.isSome = x := ⟨_, rfl⟩
          have HMv := hid (show memVal r = .tuple #[.int .i64 r1, .bool r2] by rw [memVal, hr1, hr2])
          rw [HMv.out]
          clear hr1 hr2
          go_wp2_with fail
          go_ret2
          exact ⟨by rw [HF2.out, HMv.out]; rfl, HB4.out⟩
        · obtain rfl : xs = [z0] := by
            have hl := HXl.out
            have hz := HZ0.out
            have h1 : ks.length = 1 := by
              have := HFk.out
              simp [formOf] at this
              omega
            cases xs with
            | nil => simp at hl; omega
            | cons p l => cases l with
              | nil => have hpz : p = z0 := hz
                       rw [hpz]
              | cons q l => simp at hl; omega
          obtain ⟨g, cap2, rfl, hg1, hg2⟩ := own_addr HOwn.out (by simp)
          have e0 := hown.cellAt 0 (by simp)
          have e0' : wr.cell? ⟨g, 0, none⟩ = some (.int .i64 z0) := e0
          clear hown e0
          go_wp2_with fail
          refine (memAt_v (HVm.out.on HBe.out) HOk.out HW0.out 1 (by omega)).mono ?_
          rintro e w4 ⟨rfl, hb4⟩
          have HB4 := hid (HBe.out.trans (hb4.mono hz))
          obtain ⟨r, hr⟩ : ∃ r, memIn mem z0 1 = r := ⟨_, rfl⟩
          have HRr := hid hr
          rw [hr]
          have HF2 := hid (show valT vars mem (h + 1) t = r by rw [HV2.out, HCb.out]; simpa using HRr.out)
          clear hb4 hr
          obtain ⟨r1, hr1⟩ : ∃ x, r.getD 0 = x := ⟨_, rfl⟩
          obtain ⟨r2, hr2⟩ : ∃ x, r.isSome = x := ⟨_, rfl⟩
          have HMv := hid (show memVal r = .tuple #[.int .i64 r1, .bool r2] by rw [memVal, hr1, hr2])
          rw [HMv.out]
          clear hr1 hr2
          go_wp2_with fail
          go_ret2
          exact ⟨by rw [HF2.out, HMv.out]; rfl, HB4.out⟩
end Go.Proofs.YtlgnakhfkpjioaaDoor.Um
