/- The text of a term, by the program. -/
import Derived.Test.YtlgnakhfkpjioaaDoorVc
set_option linter.unusedSimpArgs false
set_option linter.unusedVariables false
namespace Go.Proofs.YtlgnakhfkpjioaaDoor.Um
open Go.RowKit Pl Ft Mm In C2 Im Tx

theorem texts_snoc {h : Nat} {ks : List Tm} {k : Nat} (hk : k < ks.length) : (ks.take (k + 1)).map (textT h) = (ks.take k).map (textT h) ++ [textT h (ks.getD k tz)] := by
  rw [take_snoc ks k hk, List.map_append]; rfl
/-- What is given for a call of Join over texts that were appended. -/
theorem join_own {base : Nat} {xs : List ByteArray} {g cap n : Nat} {sep : ByteArray} {w wx : World} (hown : w.ownsRow base 9 1 (.slice (some ⟨g, 0, none⟩) n cap) n (strs xs)) (hn : xs.length = n) (h0 : 0 < n) (hl : xs.length ≤ 1000) (hlen : (joinOf xs sep).size ≤ 140737488355328) (hb : Below w.heap.size w wx) :
    Calls Tryd.prog 90 #[.slice (some ⟨g, 0, none⟩) n cap, .string sep] wx (TPost (joinOf xs sep) wx) := by
  have hown2 := own_on hown hb
  have hg := (hown2.lt g rfl).2
  have hcap := (own_cap hown2).of
  have hcell : ∀ (j : Nat) x, xs[j]? = some x → wx.cell? ⟨g, 0 + j, none⟩ = some (.string x) := by
    intro j x hx
    have q := hown2.cells (g := g) rfl j (.string x) (by simp [strs, hx])
    have e : ∀ n, (⟨g, 0, none⟩ : Addr).add n = ⟨g, n, none⟩ := by intro n; unfold Addr.add; split <;> simp_all
    rw [e] at q
    rw [Nat.zero_add]
    exact q
  have hs : (Lib.join (xs.map (·.data.toList)) sep.data.toList).length ≤ 140737488355328 := by
    have : (joinOf xs sep).size = (Lib.join (xs.map (·.data.toList)) sep.data.toList).length := by simp [joinOf, ByteArray.size]
    omega
  subst hn
  exact Tryd.strings_Join g 0 cap xs sep wx hcell hg (by omega) (by omega) hs
set_option maxRecDepth 100000 in
set_option maxHeartbeats 4000000 in
theorem text_c (h : Nat) : ∀ (n : Nat) (t : Tm) (kv : Value) (w : World), KRd w n kv t.kids → t.wide ≤ 1048576 → t.size ≤ 60 → shape h t = true → Tabs w → Tab w →
    Calls Tryd.prog 54 #[tmVal t kv] w (TPost (textT h t) w) := by
  induction h with
  | zero => intro n t kv w _ _ _ hs; simp [shape] at hs
  | succ h ih =>
    intro n t kv w hr hw hz hs hT hTb
    obtain ⟨hf, hks⟩ := shape_at hs
    have HI := hid ih
    have HR := hid hr
    have HWd := hid hw
    have HZ := hid hz
    have HSh := hid hks
    have HT := hid hT
    have HTb := hid hTb
    have HWi := hid (wide_eq t)
    have HSz := hid (size_eq t)
    have htot := text_len (h + 1) t hs hw
    have htl : (textT (h + 1) t).size ≤ 120000000 := by omega
    have HTl := hid htl
    have hcs := form_cases hf
    have hk2 := form_kids hf
    have hk05 := form_kind hf
    have HF := hid hf
    obtain ⟨a, cap, rfl⟩ := hr.slice
    clear ih hr hw hz hs hks hT hTb htot htl
    obtain ⟨x0, x1, x2, lk, hp⟩ := Pt.of t
    rw [hp.val]
    have hx2 : x2.size ≤ 1048576 := by rw [← hp.s]; have := HWi.out; have := HWd.out; omega
    rcases hcs with ⟨h0, h1, h2, h3⟩ | ⟨h0, h3⟩ | hcs
    · have HE := hid (show textT (h + 1) t = txt x1 by rw [textT, if_pos h0, hp.n])
      rw [hp.n] at h1 h2
      rw [hp.k] at h0
      rw [hp.l]
      subst h0
      clear hp hk2 hk05
      go_enter Tryd.func54, Tryd.ntmps54
      go_wp2_with fail
      have HB0 := hid ((Below.refl w.heap.size w).alloc (Nat.le_refl _) (.cells #[.int .i64 0, .int .i64 x1, .string x2, .slice a lk cap] 29))
      refine (Tryd.strconv_Itoa x1 (by omega) (by omega) _ (HTb.out.on HB0.out)).mono ?_
      rintro e w5 ⟨rfl, kk, os, rfl⟩
      have HB5 := hid (HB0.out.trans (Lib.below_grow w.heap.size (w.alloc (.cells #[.int .i64 0, .int .i64 x1, .string x2, .slice a lk cap] 29)) HB0.out.size kk os))
      generalize Sort.grow ((w.alloc (.cells #[.int .i64 0, .int .i64 x1, .string x2, .slice a lk cap] 29)).drewN kk) os = w5 at HB5 ⊢
      obtain ⟨d, hdd⟩ : ∃ d, txt x1 = d := ⟨_, rfl⟩
      have hd0 : (⟨(Lib.itoa x1).toArray⟩ : ByteArray) = d := hdd
      rw [hdd] at HE
      rw [hd0]
      clear hdd hd0
      go_wp2_with fail
      go_ret
      exact ⟨by rw [HE.out]; rfl, HB5.out⟩
    · have HE := hid (show textT (h + 1) t = x2 by rw [textT, if_neg (by omega), if_pos h0, hp.s])
      rw [hp.k] at h0
      rw [hp.l]
      subst h0
      clear hp hk2 hk05
      have HB0 := hid ((Below.refl w.heap.size w).alloc (Nat.le_refl _) (.cells #[.int .i64 1, .int .i64 x1, .string x2, .slice a lk cap] 29))
      go_enter Tryd.func54, Tryd.ntmps54
      go_wp2_with fail
      go_ret
      exact ⟨by rw [HE.out]; rfl, HB0.out⟩
    have hge : 2 ≤ t.kind := by rcases hcs with ⟨h, _⟩ | ⟨h, _⟩ | ⟨h, _⟩ | ⟨h, _⟩ <;> omega
    have hk1 : 1 ≤ t.kids.length := by rcases hcs with ⟨_, _, _, h⟩ | ⟨_, _, h⟩ | ⟨_, _, h⟩ | ⟨_, _, h⟩ <;> rw [h] <;> simp
    have HJ := hid (text_join (h := h) HF.out hge)
    clear hcs
    rw [hp.k] at hge hk05
    rw [hp.k, hp.s] at HJ
    rw [hp.l] at hk1 hk2 HR ⊢
    have hlk := hp.l
    clear hp
    obtain ⟨r, hre⟩ : ∃ r, textT (h + 1) t = r := ⟨_, rfl⟩
    rw [hre] at HJ HTl ⊢
    clear hre
    obtain ⟨ks, hks⟩ : ∃ l, t.kids = l := ⟨_, rfl⟩
    rw [hks] at HR hlk HSh HWi HSz HJ
    clear hks
    subst hlk
    obtain ⟨q, rfl⟩ := Int.eq_ofNat_of_zero_le hk05.1
    have hq6 : q < 6 := by omega
    have hq2 : 2 ≤ q := by omega
    rw [show ((q : Nat) : Int).toNat = q from rfl] at HJ
    obtain ⟨⟨fn, fl, fp, fa, fb⟩, hff⟩ : ∃ f, tforms.getD q .none = f := ⟨_, rfl⟩
    have hsz5 : fa.size ≤ 5 ∧ fb.size ≤ 5 := by
      have : ∀ q, q < 6 → (tforms.getD q .none).ahead.size ≤ 5 ∧ (tforms.getD q .none).behind.size ≤ 5 := by decide
      have := this q hq6
      rwa [hff] at this
    rw [hff] at HJ
    have hfa := hsz5.1
    have hfb := hsz5.2
    have HFo := hid (fun (wx : World) (hb : Below w.heap.size w wx) => by
      have hh := (HT.out.on hb).form q hq6
      rw [hff] at hh
      exact hh)
    clear hff hsz5 hge hk05
    have HB0 := hid ((Below.refl w.heap.size w).alloc (Nat.le_refl _) (.cells #[.int .i64 q, .int .i64 x1, .string x2, .slice a ks.length cap] 29))
    have HX0 := hid (Row.new w 29 #[.int .i64 q, .int .i64 x1, .string x2, .slice a ks.length cap])
    have hn0 : ¬ q = 0 := by omega
    have hn1 : ¬ q = 1 := by omega
    have hn0' : ¬ (q : Int) = 0 := by omega
    have hn1' : ¬ (q : Int) = 1 := by omega
    go_enter Tryd.func54, Tryd.ntmps54
    go_wp2_with fail
    go_loopw [3, 21] (fun vk c wr => ∃ k : Nat, c = .int .i64 k ∧ k ≤ ks.length ∧ wr.ownsRow (w.heap.size + 1) 9 1 vk ((ks.take k).map (textT h)).length (strs ((ks.take k).map (textT h))) ∧ Row wr w.heap.size 29 #[.int .i64 q, .int .i64 x1, .string x2, .slice a ks.length cap] ∧ Below w.heap.size w wr) (fun _ c _ => ks.length - (intOf c).toNat)
    case atStart => exact ⟨0, rfl, by omega, ⟨by simp [strs], .inl ⟨rfl, rfl⟩⟩, HX0.out, HB0.out⟩
    case round =>
      obtain ⟨k, rfl, hk, hown, hrx, hbel⟩ := hrel
      have HOwn := hid hown
      have HRx := hid hrx
      have HBe := hid hbel
      have hz := hbel.size
      have hlx := hrx.lt
      have d0 := hrx.cell 0
      have d1 := hrx.cell 1
      have d2 := hrx.cell 2
      have d3 := hrx.cell 3
      simp at d0 d1 d2 d3
      clear hrx hbel
      by_cases hlt : k < ks.length
      · obtain ⟨m, b, o, cap', rfl, hv, hg, hc⟩ := HR.out.cells (by omega)
        simp only [Value.slice.injEq, true_and] at hv
        obtain ⟨rfl, rfl⟩ := hv
        obtain ⟨u, c0, c1, c2, c3, hru⟩ := hc k hlt
        have q0 := (HBe.out.cell (p := ⟨b, o + k * 4, none⟩) hg).trans c0
        have q1 := (HBe.out.cell (p := ⟨b, o + k * 4 + 1, none⟩) hg).trans c1
        have q2 := (HBe.out.cell (p := ⟨b, o + k * 4 + 2, none⟩) hg).trans c2
        have q3 := (HBe.out.cell (p := ⟨b, o + k * 4 + 3, none⟩) hg).trans c3
        have hwk := wides_at ks k hlt
        have hsk := sizes_at ks k hlt
        have HWk := hid (show (ks.getD k tz).wide ≤ 1048576 by have := HWi.out; have := HWd.out; omega)
        have HZk := hid (show (ks.getD k tz).size ≤ 60 by have := HSz.out; have := HZ.out; omega)
        have HSk := hid (HSh.out k (by omega))
        have HSn := hid (texts_snoc (h := h) hlt)
        have hkl := text_len h (ks.getD k tz) HSk.out HWk.out
        have hkl2 : (textT h (ks.getD k tz)).size ≤ 120000000 := by have := HZk.out; omega
        have HKl := hid hkl2
        clear hwk hsk hown hkl hkl2
        obtain ⟨t2, ht⟩ : ∃ t, ks.getD k tz = t := ⟨_, rfl⟩
        rw [ht] at q0 q1 q2 hru HWk HZk HSk HSn HKl
        obtain ⟨su, cu, rfl⟩ := hru.slice
        obtain ⟨y0, y1, y2, ly, hq⟩ := Pt.of t2
        rw [hq.k] at q0
        rw [hq.n] at q1
        rw [hq.s] at q2
        rw [hq.l] at q3 hru
        have hAl := (Below.refl wr.heap.size wr).alloc (Nat.le_refl _) (.cells #[.int .i64 y0, .int .i64 y1, .string y2, .slice su ly cu] 29)
        have HAl := hid hAl
        have HRu := hid ((hru.on HBe.out).on hAl)
        have HQ := hid hq
        have hlen : ((ks.take k).map (textT h)).length = k := by simp; omega
        obtain ⟨xs, hxs⟩ : ∃ l, (ks.take k).map (textT h) = l := ⟨_, rfl⟩
        rw [hxs] at HOwn HSn hlen
        have HLen := hid hlen
        have hxl : xs.length ≤ 2 := by omega
        have HXl := hid hxl
        obtain ⟨sk, ck, rfl⟩ := own_slice HOwn.out
        have HOwnA := hid (own_on HOwn.out hAl)
        have HBeA := hid (HBe.out.trans (hAl.mono hz))
        have HRxA := hid (HRx.out.on hAl)
        clear hc c0 c1 c2 c3 hru ht hq hAl hxs hlen hxl
        go_wp2_with fail
        refine (text_of_val (P := fun _ => True) HQ.out (HI.out m t2 _ _ HRu.out HWk.out HZk.out HSk.out (HT.out.on HBeA.out) (HTb.out.on HBeA.out))).mono ?_
        rintro e w3 ⟨rfl, hb3⟩
        have HB3 := hid (HBeA.out.trans (hb3.mono HBeA.out.size))
        have HRx3 := hid (HRxA.out.on hb3)
        have HOwn3 := hid (own_on HOwnA.out hb3)
        have hz3 := HRx3.out.lt
        clear hb3 q0 q1 q2 q3 d0 d1 d2 d3
        obtain ⟨s, hs⟩ : ∃ s, textT h t2 = s := ⟨_, rfl⟩
        rw [hs] at HSn HKl ⊢
        clear hs
        go_wp2_with (at_builtin; refine app_strs _ rfl _ _ rfl (w.heap.size + 1) xs [s] _ rfl (own_on HOwn3.out ((Below.refl _ _).alloc (Nat.le_refl _) _)) _ _ _ rfl rfl (src_strs _ [s] #[.string s] _ 1 rfl (by simp) rfl) (by have := HXl.out; simp only [List.length_cons, List.length_nil]; omega) (by simp; omega) ?_)
        intro v5 w5 hg5
        have HG5 := hid hg5
        clear hg5
        go_wp2_with fail
        go_roundw
        case rel =>
          have hbl := (HB3.out.alloc HB3.out.size (.cells #[.string s] 9)).trans (HG5.out.bel.mono (Nat.le_succ _))
          exact ⟨k + 1, by go_num, by omega, by rw [HSn.out]; exact HG5.out.own, (HRx3.out.alloc _).below HG5.out.bel (Nat.lt_succ_self _), hbl⟩
        case measure => simp [intOf]; omega
      · obtain rfl : k = ks.length := by omega
        rw [List.take_length] at HOwn
        obtain ⟨xs, hxs⟩ : ∃ l, ks.map (textT h) = l := ⟨_, rfl⟩
        have hlen : xs.length = ks.length := by rw [← hxs]; simp
        rw [hxs] at HOwn HJ
        obtain ⟨g, cap2, rfl, hg1, hg2⟩ := own_addr HOwn.out (by omega)
        rw [hlen] at HOwn ⊢
        have HLen := hid hlen
        have hjl : (joinOf xs (sepOf x2)).size ≤ 120000000 := by
          have h1 := HTl.out
          rw [HJ.out, size_app, size_app] at h1
          omega
        have HJl := hid hjl
        have hf5 := HFo.out _ HBe.out
        obtain ⟨f0, f1, f2, f3, f4⟩ := hf5
        have HY0 := hid (Row.new wr 108 #[.int .i64 fn, .int .i64 fl, .int .i64 fp, .string fa, .string fb])
        have HBy := hid (HBe.out.alloc hz (.cells #[.int .i64 fn, .int .i64 fl, .int .i64 fp, .string fa, .string fb] 108))
        have HXy := hid (HRx.out.alloc (.cells #[.int .i64 fn, .int .i64 fl, .int .i64 fp, .string fa, .string fb] 108))
        have HOy := hid (own_on HOwn.out ((Below.refl wr.heap.size wr).alloc (Nat.le_refl _) (.cells #[.int .i64 fn, .int .i64 fl, .int .i64 fp, .string fa, .string fb] 108)))
        clear hxs hlen hown hk hlt
        go_upto_region 13 with fail
        generalize hwy : (wr.alloc (.cells #[.int .i64 fn, .int .i64 fl, .int .i64 fp, .string fa, .string fb] 108)) = wy at HY0 HBy HXy HOy ⊢
        clear hwy f0 f1 f2 f3 f4 d0 d1 d2 d3
        have k0 := HY0.out.cell 3
        have k1 := HY0.out.cell 4
        have k2 := HXy.out.cell 2
        simp at k0 k1 k2
        have g0 := HY0.out.lt
        have g1 := HXy.out.lt
        have HS := hid (fun (wx : World) (hbx : Below wy.heap.size wy wx) => (show wx.cell? ⟨wr.heap.size, 3, none⟩ = some (.string fa) ∧ wx.cell? ⟨wr.heap.size, 4, none⟩ = some (.string fb) ∧ wx.cell? ⟨w.heap.size, 2, none⟩ = some (.string x2) from
          ⟨(hbx.cell (p := ⟨wr.heap.size, 3, none⟩) g0).trans k0, (hbx.cell (p := ⟨wr.heap.size, 4, none⟩) g0).trans k1, (hbx.cell (p := ⟨w.heap.size, 2, none⟩) g1).trans k2⟩))
        have HSp := hid (fun (wx : World) => spaced_c x2 wx hx2)
        have HJn := hid (fun (wx : World) (hbx : Below wy.heap.size wy wx) => join_own (xs := xs) (n := ks.length) (sep := sepOf x2) HOy.out HLen.out (by omega) (by have := HLen.out; omega) (by have := HJl.out; omega) hbx)
        clear k0 k1 k2
        have HDr := hid (Below.refl wy.heap.size wy).drew
        obtain ⟨j, hj⟩ : ∃ j, joinOf xs (sepOf x2) = j := ⟨_, rfl⟩
        rw [hj] at HJ hjl
        simp only [hj] at HJn
        clear hj
        have HSe := hid (show (⟨#[32]⟩ : ByteArray) ++ x2 ++ ⟨#[32]⟩ = sepOf x2 from rfl)
        rw [HSe.out] at HSp
        generalize sepOf x2 = sep at HSp HJn HJl HSe
        have z1 : ¬ (9223372036854775807 < fa.size + j.size) := by omega
        have z2 : ¬ (9223372036854775807 < fa.size + j.size + fb.size) := by omega
        go_region_held3 (fun w' => w'.cell? ⟨wr.heap.size, 3, none⟩ = some (.string fa) ∧ w'.cell? ⟨wr.heap.size, 4, none⟩ = some (.string fb) ∧ w'.cell? ⟨w.heap.size, 2, none⟩ = some (.string x2)) (first | exact HS.out _ HDr.out | exact HS.out _ HBj.out)
          (first
          | (go_at_call 91; (with_reducible refine (HSp.out _).mono ?_); rintro e wa ⟨rfl, rfl⟩)
          | (go_at_call 90; (with_reducible refine (HJn.out _ HDr.out).mono ?_); rintro e wb ⟨rfl, hbb⟩; have HBj := hid (HDr.out.trans (hbb.mono (Nat.le_refl _))); clear hbb))
        all_goals
          go_wp2_with fail
          go_ret
          exact ⟨by rw [HJ.out]; rfl, HBy.out.trans (HBj.out.mono HBy.out.size)⟩
set_option maxHeartbeats 1000000 in
theorem termText_c (n : Nat) (t : Tm) (kv : Value) (w : World) (hr : KRd w n kv t.kids) (hw : t.wide ≤ 1048576) (hT : Tabs w) (hTb : Tab w) :
    Calls Tryd.prog 20 #[tmVal t kv] w (TPost (termTextOf t) w) := by
  have HR := hid hr
  have HWd := hid hw
  have HT := hid hT
  have HTb := hid hTb
  obtain ⟨a, cap, rfl⟩ := hr.slice
  clear hr hw hT hTb
  obtain ⟨x0, x1, x2, lk, hp⟩ := Pt.of t
  rw [hp.val]
  have HP := hid hp
  rw [hp.l] at HR ⊢
  clear hp
  have HB0 := hid ((Below.refl w.heap.size w).alloc (Nat.le_refl _) (.cells #[.int .i64 x0, .int .i64 x1, .string x2, .slice a lk cap] 29))
  have HX0 := hid (Row.new w 29 #[.int .i64 x0, .int .i64 x1, .string x2, .slice a lk cap])
  cases hok : termOk t
  · have HOk := hid hok
    have HE := hid (show termTextOf t = ⟨#[]⟩ by rw [termTextOf, hok]; rfl)
    clear hok
    go_enter Tryd.func20, Tryd.ntmps20
    go_wp2_with fail
    refine (termOk_v HP.out (HR.out.on HB0.out) HWd.out (HT.out.on HB0.out) HOk.out).mono ?_
    rintro e w1 ⟨rfl, hb1⟩
    have HB1 := hid (HB0.out.trans (hb1.mono HB0.out.size))
    clear hb1
    go_wp2_with fail
    go_ret
    exact ⟨by rw [HE.out]; rfl, HB1.out⟩
  · have HOk := hid hok
    obtain ⟨hsh, hsz⟩ := termOk_bd hok
    have HSh := hid hsh
    have HSz := hid hsz
    have HE := hid (show termTextOf t = textT 14 t by rw [termTextOf, hok]; rfl)
    clear hok hsh hsz
    go_enter Tryd.func20, Tryd.ntmps20
    go_wp2_with fail
    refine (termOk_v HP.out (HR.out.on HB0.out) HWd.out (HT.out.on HB0.out) HOk.out).mono ?_
    rintro e w1 ⟨rfl, hb1⟩
    have HB1 := hid (HB0.out.trans (hb1.mono HB0.out.size))
    have HX1 := hid (HX0.out.on hb1)
    clear hb1
    have d0 := HX1.out.cell 0
    have d1 := HX1.out.cell 1
    have d2 := HX1.out.cell 2
    have d3 := HX1.out.cell 3
    simp at d0 d1 d2 d3
    go_wp2_with fail
    refine (text_of_val (P := fun _ => True) HP.out (text_c 14 n t _ _ (HR.out.on HB1.out) HWd.out HSz.out HSh.out (HT.out.on HB1.out) (HTb.out.on HB1.out))).mono ?_
    rintro e w2 ⟨rfl, hb2⟩
    have HB2 := hid (HB1.out.trans (hb2.mono HB1.out.size))
    clear hb2
    obtain ⟨s, hs⟩ : ∃ s, textT 14 t = s := ⟨_, rfl⟩
    rw [hs] at HE ⊢
    clear hs
    go_wp2_with fail
    go_ret
    exact ⟨by rw [HE.out]; rfl, HB2.out⟩
end Go.Proofs.YtlgnakhfkpjioaaDoor.Um
