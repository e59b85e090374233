/- value of the program. -/
import Derived.Test.YtlgnakhfkpjioaaDoorUq
import Derived.Test.YtlgnakhfkpjioaaDoorUg
set_option linter.unusedSimpArgs false
set_option linter.unusedVariables false
namespace Go.Proofs.YtlgnakhfkpjioaaDoor.Um
open Go.RowKit Pl Ft Mm In C2 Im

/-- What terms are evaluated with, in memory. -/
structure Env (vars : List Nm) (mem : List Int) (m0 : Nat) (v : Value) (w : World) : Prop where
  map : Ms.EAt w m0 Ms.encI (mapOf vars)
  mem : Rd w v mem
  cap : CapOk v
theorem Env.on {vars : List Nm} {mem : List Int} {m0 : Nat} {v : Value} {w w' : World} (h : Env vars mem m0 v w) (hb : Below w.heap.size w w') : Env vars mem m0 v w' := ⟨h.map.on hb, h.mem.on hb, h.cap⟩
theorem memory_v {vars : List Nm} {mem : List Int} {m0 : Nat} {v : Value} {w : World} (he : Env vars mem m0 v w) (hok : EnvOk vars mem) {a : Int} (ha : isW a = true) (wide : Nat) (hw : wide = 1 ∨ wide = 2) :
    Calls Tryd.prog 117 #[.agg #[.map (some m0), v], .int .i64 a, .int .i64 wide] w fun e w' => e = .returned (memVal (memIn mem a wide)) ∧ Below w.heap.size w w' := by
  obtain ⟨h0, h1⟩ := isW_iff.1 ha
  obtain ⟨p, rfl⟩ := Int.eq_ofNat_of_zero_le h0
  exact memory_c m0 mem v p wide w he.mem he.cap hw (by omega) hok.ml hok.mb
set_option maxRecDepth 100000 in
set_option maxHeartbeats 8000000 in
theorem value_c (vars : List Nm) (mem : List Int) (m0 : Nat) (v : Value) (hok : EnvOk vars mem) (h : Nat) : ∀ (n : Nat) (t : Tm) (kv : Value) (w : World), KRd w n kv t.kids → t.wide ≤ 1048576 → shape h t = true → Env vars mem m0 v w → Tabs w →
    Calls Tryd.prog 73 #[.agg #[.map (some m0), v], tmVal t kv] w fun e w' => e = .returned (memVal (valT vars mem h t)) ∧ Below w.heap.size w w' := by
  induction h with
  | zero => intro n t kv w _ _ hs; simp [shape] at hs
  | succ h ih =>
    intro n t kv w hr hw hs henv hT
    obtain ⟨hf, hks⟩ := shape_at hs
    have HI := hid ih
    have HR := hid hr
    have HSh := hid hks
    have HEnv := hid henv
    have HT := hid hT
    have HOk := hid hok
    have HF := hid hf
    have HW := hid (wide_eq t)
    have hk2 := form_kids hf
    obtain ⟨hk0, hk5⟩ := form_kind hf
    have htl : t.text.size ≤ 1048576 := by have := HW.out; omega
    have HWd := hid hw
    clear ih hks hT hok hf hs hw
    obtain ⟨sm, cm, rfl, _⟩ := henv.mem
    have hlm := HOk.out.ml
    obtain ⟨lm, hlm2⟩ : ∃ l, mem.length = l := ⟨_, rfl⟩
    rw [hlm2] at HI HEnv ⊢
    clear henv hlm hlm2
    obtain ⟨a, cap, rfl⟩ := hr.slice
    clear hr
    have HV := hid (show valT vars mem (h + 1) t = (allV (valT vars mem h) t.kids).bind (combine vars mem t) from rfl)
    have HVw := hid (fun k (hk : k < t.kids.length) x (hx : valT vars mem h (t.kids.getD k tz) = some x) => valT_word HOk.out h _ (HSh.out k hk) x hx)
    obtain ⟨x0, x1, x2, lk, hp⟩ := Pt.of t
    rw [hp.val]
    have HP := hid hp
    have hlk := hp.l
    rw [hp.k] at hk0 hk5
    rw [hp.s] at htl
    rw [hlk] at HR HVw hk2 HSh ⊢
    clear hp
    obtain ⟨ks, hks⟩ : ∃ l, t.kids = l := ⟨_, rfl⟩
    rw [hks] at HR HV HVw hlk HSh HW
    clear hks
    subst hlk
    have ha1 := (Below.refl w.heap.size w).alloc (Nat.le_refl _) (.cells #[.map (some m0), .slice sm lm cm] 93)
    have ha2 := ha1.alloc ha1.size (.cells #[.int .i64 x0, .int .i64 x1, .string x2, .slice a ks.length cap] 29)
    have HB0 := hid (ha2.alloc ha2.size (.cells #[.int .i64 0, .int .i64 0] 126))
    have HS0 := hid (((Row.new w 93 #[.map (some m0), .slice sm lm cm]).alloc (.cells #[.int .i64 x0, .int .i64 x1, .string x2, .slice a ks.length cap] 29)).alloc (.cells #[.int .i64 0, .int .i64 0] 126))
    have HX0 := hid ((Row.new (w.alloc (.cells #[.map (some m0), .slice sm lm cm] 93)) 29 #[.int .i64 x0, .int .i64 x1, .string x2, .slice a ks.length cap]).alloc (.cells #[.int .i64 0, .int .i64 0] 126))
    have HN0 := hid (Row.new ((w.alloc (.cells #[.map (some m0), .slice sm lm cm] 93)).alloc (.cells #[.int .i64 x0, .int .i64 x1, .string x2, .slice a ks.length cap] 29)) 126 #[.int .i64 0, .int .i64 0])
    simp only [World.size_alloc] at HX0 HN0
    clear ha1 ha2
    go_enter Tryd.func73, Tryd.ntmps73
    go_wp2_with fail
    go_loopw [16] (fun c wr => ∃ (k : Nat) (xs : List Int), c = .int .i64 k ∧ k ≤ ks.length ∧ allV (valT vars mem h) (ks.take k) = some xs ∧ xs.length = k ∧ (∀ j, isW (xs.getD j 0) = true) ∧ Row wr (w.heap.size + 1 + 1) 126 #[.int .i64 (xs.getD 0 0), .int .i64 (xs.getD 1 0)] ∧ Row wr w.heap.size 93 #[.map (some m0), .slice sm lm cm] ∧ Row wr (w.heap.size + 1) 29 #[.int .i64 x0, .int .i64 x1, .string x2, .slice a ks.length cap] ∧ Below w.heap.size w wr) (fun c _ => ks.length - (intOf c).toNat)
    case atStart => exact ⟨0, [], rfl, by omega, rfl, rfl, fun j => rfl, HN0.out, HS0.out, HX0.out, HB0.out⟩
    case round =>
      obtain ⟨k, xs, rfl, hk, hall, hxl, hxw, hrn, hrs, hrx, hbel⟩ := hrel
      obtain ⟨z0, hz0⟩ : ∃ z, xs.getD 0 0 = z := ⟨_, rfl⟩
      obtain ⟨z1, hz1⟩ : ∃ z, xs.getD 1 0 = z := ⟨_, rfl⟩
      rw [hz0, hz1] at hrn
      have HZ0 := hid hz0
      have HZ1 := hid hz1
      clear hz0 hz1
      have HAll := hid hall
      have HXl := hid hxl
      have HXw := hid hxw
      have HRn := hid hrn
      have HRs := hid hrs
      have HRx := hid hrx
      have HBe := hid hbel
      have hz := hbel.size
      have hln := hrn.lt
      have s0 := hrs.cell 0
      have s1 := hrs.cell 1
      have n0 := hrn.cell 0
      have n1 := hrn.cell 1
      have hfn := hrn.free
      simp at s0 s1 n0 n1
      clear hall hxl hxw hrn hrs hrx
      by_cases hlt : k < ks.length
      · obtain ⟨m, b, o, cap', rfl, hv, hg, hc⟩ := HR.out.cells (by omega)
        simp only [Value.slice.injEq, true_and] at hv
        obtain ⟨rfl, rfl⟩ := hv
        obtain ⟨u, c0, c1, c2, c3, hru⟩ := hc k hlt
        obtain ⟨su, cu, rfl⟩ := hru.slice
        have q0 := (HBe.out.cell (p := ⟨b, o + k * 4, none⟩) hg).trans c0
        have q1 := (HBe.out.cell (p := ⟨b, o + k * 4 + 1, none⟩) hg).trans c1
        have q2 := (HBe.out.cell (p := ⟨b, o + k * 4 + 2, none⟩) hg).trans c2
        have q3 := (HBe.out.cell (p := ⟨b, o + k * 4 + 3, none⟩) hg).trans c3
        have hwk := wides_at ks k hlt
        have HWk := hid (show (ks.getD k tz).wide ≤ 1048576 by have := HW.out; have := HWd.out; omega)
        have HSk := hid (HSh.out k (by omega))
        have HVk := hid (HVw.out k (by omega))
        have HSn := hid (fun x hx => allV_snoc hlt HAll.out (x := x) hx)
        have HNn := hid (fun hx => allV_none (f := valT vars mem h) hlt hx)
        clear hwk
        obtain ⟨t2, ht⟩ : ∃ t, ks.getD k tz = t := ⟨_, rfl⟩
        rw [ht] at q0 q1 q2 q3 hru HWk HSk HVk HSn HNn
        have HRu := hid (hru.on HBe.out)
        clear hc c0 c1 c2 c3 hru ht
        obtain ⟨y0, y1, y2, ly, hq⟩ := Pt.of t2
        rw [hq.k] at q0
        rw [hq.n] at q1
        rw [hq.s] at q2
        rw [hq.l] at q3 HRu
        have HQ := hid hq
        clear hq hbel
        have HA2 := hid ((Below.refl wr.heap.size wr).alloc (Nat.le_refl _) (.cells #[.int .i64 y0, .int .i64 y1, .string y2, .slice su ly cu] 29))
        have HB2 := hid (HBe.out.trans (HA2.out.mono hz))
        have hsr : w.heap.size < wr.heap.size := by omega
        go_wp2_with fail
        rw [← HQ.out.val]
        refine (HI.out m t2 _ _ (HRu.out.on HA2.out) HWk.out HSk.out (HEnv.out.on HB2.out) (HT.out.on HB2.out)).mono ?_
        rw [HQ.out.val]
        rintro e w3 ⟨rfl, hb3⟩
        have HB3 := hid (HB2.out.trans (hb3.mono HB2.out.size))
        have HRn3 := hid ((HRn.out.on HA2.out).on hb3)
        have HRs3 := hid ((HRs.out.on HA2.out).on hb3)
        have HRx3 := hid ((HRx.out.on HA2.out).on hb3)
        clear hb3 q0 q1 q2 q3 s0 s1 n0 n1 hfn
        have n0 := HRn3.out.cell 0
        have n1 := HRn3.out.cell 1
        have hfn := HRn3.out.free
        simp at n0 n1
        obtain ⟨r, hr⟩ : ∃ r, valT vars mem h t2 = r := ⟨_, rfl⟩
        rw [hr] at HVk HSn HNn ⊢
        clear hr
        cases r with
        | none =>
          have HNo := hid (show valT vars mem (h + 1) t = none by rw [HV.out, HNn.out rfl]; rfl)
          show _
          unfold memVal
          simp only [Option.getD_none, Option.isSome_none]
          go_wp2_with fail
          go_ret2
          exact ⟨by rw [HNo.out]; rfl, HB3.out⟩
        | some x =>
          have HXx := hid (HVk.out x rfl)
          have HSx := hid (HSn.out x rfl)
          unfold memVal
          simp only [Option.getD_some, Option.isSome_some]
          have hk01 : k = 0 ∨ k = 1 := by omega
          rcases hk01 with rfl | rfl
          · obtain rfl : xs = [] := List.eq_nil_of_length_eq_zero HXl.out
            go_wp2_with fail
            go_roundw
            case rel =>
              refine ⟨0 + 1, [x], by go_num, by omega, HSx.out, rfl, fun j => ?_, ?_, HRs3.out.far (by first | (simp; done) | (simp; omega)) _, HRx3.out.far (by first | (simp; done) | (simp; omega)) _, HB3.out.setCell (by simp; omega) _⟩
              · cases j with
                | zero => exact HXx.out
                | succ j => rfl
              · have h0 : z1 = 0 := HZ1.out.symm
                subst h0
                exact HRn3.out.set 0 _
            case measure => simp [intOf]; omega
          · obtain ⟨z, rfl⟩ : ∃ z, xs = [z] := by
              have := HXl.out
              cases xs with
              | nil => simp at this
              | cons z l => cases l with
                | nil => exact ⟨z, rfl⟩
                | cons y l => simp at this
            go_wp2_with fail
            go_roundw
            case rel =>
              refine ⟨1 + 1, [z, x], by go_num, by omega, HSx.out, rfl, fun j => ?_, ?_, HRs3.out.far (by first | (simp; done) | (simp; omega)) _, HRx3.out.far (by first | (simp; done) | (simp; omega)) _, HB3.out.setCell (by simp; omega) _⟩
              · cases j with
                | zero => exact HXw.out 0
                | succ j => cases j with
                  | zero => exact HXx.out
                  | succ j => rfl
              · have h0 : z0 = z := HZ0.out.symm
                subst h0
                exact HRn3.out.set 1 _
            case measure => simp [intOf]; omega
      · obtain rfl : k = ks.length := by omega
        have hall2 := HAll.out
        rw [List.take_length] at hall2
        have HV2 := hid (show valT vars mem (h + 1) t = combine vars mem t xs by rw [HV.out, hall2]; rfl)
        have hw0 := HXw.out 0
        have hw1 := HXw.out 1
        have HW0 := hid hw0
        have HW1 := hid hw1
        have HCb := hid (show combine vars mem t xs = if x0 = 0 then some x1 else if x0 = 1 then some (varIn vars x2) else if x0 = 2 then some (opVal x2 z0 z1) else if x0 = 3 then some (if z0 = 0 then 1 else 0) else memIn mem z0 (if x0 = 4 then 2 else 1) by
          unfold combine
          rw [HP.out.k, HP.out.n, HP.out.s, HZ0.out, HZ1.out])
        rw [HZ0.out] at HW0
        rw [HZ1.out] at HW1
        clear hall2 hbel hw0 hw1
        have x0' := HRx.out.cell 0
        have x1' := HRx.out.cell 1
        have x2' := HRx.out.cell 2
        simp at x0' x1' x2'
        have hk6 : x0 = 0 ∨ x0 = 1 ∨ x0 = 2 ∨ x0 = 3 ∨ x0 = 4 ∨ x0 = 5 := by omega
        rcases hk6 with rfl | rfl | rfl | rfl | rfl | rfl
        · go_wp2_with fail
          go_ret2
          exact ⟨by rw [HV2.out, HCb.out]; rfl, HBe.out⟩
        · have hget := Ms.run_get_i ((HEnv.out.on HBe.out).map) x2 (by unfold maxLen; omega)
          rw [look_var] at hget
          obtain ⟨y, hy⟩ : ∃ y, varIn vars x2 = y := ⟨_, rfl⟩
          rw [hy] at hget
          have HY := hid hy
          unfold Ms.encI at hget
          clear hy
          go_wp2_with fail
          go_ret2
          exact ⟨by rw [HV2.out, HCb.out, HY.out]; rfl, HBe.out⟩
        · go_wp2_with fail
          refine (operatorOf_c x2 _ (HT.out.on HBe.out)).mono ?_
          rintro e w4 ⟨rfl, hb4⟩
          have HB4 := hid (HBe.out.trans (hb4.mono hz))
          have HRn4 := hid (HRn.out.on hb4)
          have HOv := hid (show opVal x2 z0 z1 = opOf ((opFound x2).getD .none) z0 z1 from rfl)
          unfold opPair
          obtain ⟨q, hq⟩ : ∃ q, (opFound x2).getD .none = q := ⟨_, rfl⟩
          obtain ⟨qb, hqb⟩ : ∃ q, (opFound x2).isSome = q := ⟨_, rfl⟩
          rw [hq] at HOv ⊢
          rw [hqb]
          have HQv := hid (show q.val = .agg #[.string q.text, .bool q.asks, .int .i64 q.number] from rfl)
          rw [HQv.out]
          obtain ⟨qt, hqt⟩ : ∃ x, q.text = x := ⟨_, rfl⟩
          obtain ⟨qa, hqa⟩ : ∃ x, q.asks = x := ⟨_, rfl⟩
          obtain ⟨qn, hqn⟩ : ∃ x, q.number = x := ⟨_, rfl⟩
          rw [hqt, hqa, hqn] at HQv ⊢
          clear hb4 hq hqb hqt hqa hqn n0 n1 hfn s0 s1
          have n0 := HRn4.out.cell 0
          have n1 := HRn4.out.cell 1
          simp at n0 n1
          have hln4 := HRn4.out.lt
          go_wp2_with fail
          rw [← HQv.out]
          refine (of_c q z0 z1 _).mono ?_
          rw [HQv.out]
          rintro e w5 ⟨rfl, hb5⟩
          have HA5 := hid ((Below.refl w4.heap.size w4).alloc (Nat.le_refl _) (.cells #[.string qt, .bool qa, .int .i64 qn] 128))
          have HB5 := hid ((HB4.out.trans (HA5.out.mono HB4.out.size)).trans (hb5.mono (HB4.out.trans (HA5.out.mono HB4.out.size)).size))
          obtain ⟨y, hy⟩ : ∃ y, opOf q z0 z1 = y := ⟨_, rfl⟩
          rw [hy] at HOv ⊢
          clear hb5 hy
          go_wp2_with fail
          go_ret2
          exact ⟨by rw [HV2.out, HCb.out, ← HOv.out]; rfl, HB5.out⟩
        · go_wp2_with fail
          refine (truth_c _ _).mono ?_
          rintro e w4 ⟨rfl, rfl⟩
          obtain ⟨y, hy⟩ : ∃ y : Int, (if (z0 == 0) = true then (1 : Int) else 0) = y := ⟨_, rfl⟩
          rw [hy]
          have HY := hid (show (if z0 = 0 then (1 : Int) else 0) = y by rw [← hy]; simp)
          clear hy
          go_wp2_with fail
          go_ret2
          exact ⟨by rw [HV2.out, HCb.out]; simp [memVal, HY.out], HBe.out⟩
        · go_wp2_with fail
          refine (memory_v (HEnv.out.on HBe.out) HOk.out HW0.out 2 (.inr rfl)).mono ?_
          rintro e w4 ⟨rfl, hb4⟩
          have HB4 := hid (HBe.out.trans (hb4.mono hz))
          obtain ⟨r, hr⟩ : ∃ r, memIn mem z0 2 = r := ⟨_, rfl⟩
          have HRr := hid hr
          rw [hr]
          have HF := hid (show valT vars mem (h + 1) t = r by rw [HV2.out, HCb.out]; simpa using HRr.out)
          clear hb4 hr
          obtain ⟨r1, hr1⟩ : ∃ x, r.getD 0 = x := ⟨_, rfl⟩
          obtain ⟨r2, hr2⟩ : ∃ x, r.isSome = x := ⟨_, rfl⟩
          have HMv := hid (show memVal r = .tuple #[.int .i64 r1, .bool r2] by rw [memVal, hr1, hr2])
          rw [HMv.out]
          clear hr1 hr2
          go_wp2_with fail
          go_ret2
          exact ⟨by rw [HF.out, HMv.out]; rfl, HB4.out⟩
        · go_wp2_with fail
          refine (memory_v (HEnv.out.on HBe.out) HOk.out HW0.out 1 (.inl rfl)).mono ?_
          rintro e w4 ⟨rfl, hb4⟩
          have HB4 := hid (HBe.out.trans (hb4.mono hz))
          obtain ⟨r, hr⟩ : ∃ r, memIn mem z0 1 = r := ⟨_, rfl⟩
          have HRr := hid hr
          rw [hr]
          have HF := hid (show valT vars mem (h + 1) t = r by rw [HV2.out, HCb.out]; simpa using HRr.out)
          clear hb4 hr
          obtain ⟨r1, hr1⟩ : ∃ x, r.getD 0 = x := ⟨_, rfl⟩
          obtain ⟨r2, hr2⟩ : ∃ x, r.isSome = x := ⟨_, rfl⟩
          have HMv := hid (show memVal r = .tuple #[.int .i64 r1, .bool r2] by rw [memVal, hr1, hr2])
          rw [HMv.out]
          clear hr1 hr2
          go_wp2_with fail
          go_ret2
          exact ⟨by rw [HF.out, HMv.out]; rfl, HB4.out⟩
end Go.Proofs.YtlgnakhfkpjioaaDoor.Um
