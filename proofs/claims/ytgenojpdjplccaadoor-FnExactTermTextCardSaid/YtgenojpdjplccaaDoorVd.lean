/- The text of a term, by the program. -/
import Derived.Test.YtgenojpdjplccaaDoorVc
import Derived.Test.YtgenojpdjplccaaDoorVk
set_option linter.unusedSimpArgs false
set_option linter.unusedVariables false
namespace Go.Proofs.YtgenojpdjplccaaDoor.Um
open Go.RowKit Pl Ft Mm In C2 Im Tx

theorem texts_map {f : Tm → ByteArray} {ks : List Tm} {k : Nat} (hk : k < ks.length) : (ks.take (k + 1)).map f = (ks.take k).map f ++ [f (ks.getD k tz)] := by
  rw [take_snoc ks k hk, List.map_append]; rfl
theorem texts_snoc {h : Nat} {ks : List Tm} {k : Nat} (hk : k < ks.length) : (ks.take (k + 1)).map (textT h) = (ks.take k).map (textT h) ++ [textT h (ks.getD k tz)] := by
  rw [take_snoc ks k hk, List.map_append]; rfl
/-- What is given for a call of Join over texts that were appended. -/
theorem join_own {base : Nat} {xs : List ByteArray} {g cap n : Nat} {sep : ByteArray} {w wx : World} (hown : w.ownsRow base 9 1 (.slice (some ⟨g, 0, none⟩) n cap) n (strs xs)) (hn : xs.length = n) (h0 : 0 < n) (hl : xs.length ≤ 1000) (hlen : (joinOf xs sep).size ≤ 140737488355328) (hb : Below w.heap.size w wx) :
    Calls Tryd.prog 113 #[.slice (some ⟨g, 0, none⟩) n cap, .string sep] wx (TPost (joinOf xs sep) wx) := by
  have hown2 := own_on hown hb
  have hg := (hown2.lt g rfl).2
  have hcap := (own_cap hown2).of
  have hcell : ∀ (j : Nat) x, xs[j]? = some x → wx.cell? ⟨g, 0 + j, none⟩ = some (.string x) := by
    intro j x hx
    have q := hown2.cells (g := g) rfl j (.string x) (by simp [strs, hx])
    have e : ∀ n, (⟨g, 0, none⟩ : Addr).add n = ⟨g, n, none⟩ := by intro n; unfold Addr.add; split <;> simp_all
    rw [e] at q
    rw [Nat.zero_add]
    exact q
  have hs : (Lib.join (xs.map (·.data.toList)) sep.data.toList).length ≤ 140737488355328 := by
    have : (joinOf xs sep).size = (Lib.join (xs.map (·.data.toList)) sep.data.toList).length := by simp [joinOf, ByteArray.size]
    omega
  subst hn
  exact Tryd.strings_Join g 0 cap xs sep wx hcell hg (by omega) (by omega) hs
set_option maxRecDepth 100000 in
set_option maxHeartbeats 4000000 in
theorem mappedS_c (n : Nat) (f : Tm → ByteArray) (ks : List Tm) (v : Value) (w0 : World) (F : Nat) (cs : Array Value) (hr : KRd w0 n v ks) (hl : ks.length ≤ 1000000) (hen : ∀ (xs : Array Value) (w : World), (callFunc F xs).run Tryd.prog w = .ok (.enter F xs) w)
    (hc : ∀ (n' j : Nat) (u : Value) (w : World), j < ks.length → n = n' + 1 → KRd w n' u (ks.getD j tz).kids → Below w0.heap.size w0 w → Calls Tryd.prog F (#[tmVal (ks.getD j tz) u] ++ cs) w (TPost (f (ks.getD j tz)) w)) (hsz : ∀ j, j < ks.length → (f (ks.getD j tz)).size ≤ 120000000) :
    Calls Tryd.prog 114 #[v, .func (.func F) #[] cs] w0 (fun e w' => ∃ a cm, e = .returned (.slice a ks.length cm) ∧ w'.ownsRow w0.heap.size 9 1 (.slice a ks.length cm) ks.length (strs (ks.map f)) ∧ Below w0.heap.size w0 w') := by
  obtain ⟨a, cap, rfl⟩ := hr.slice
  have HR := hid hr
  have HC := hid hc
  have HEn := hid hen
  clear hr hc hen
  have HSize := hid hsz
  clear hsz
  go_enter Tryd.func114, Tryd.ntmps114
  go_wp2_with fail
  go_loopw [5, 10] (fun vk c wr => ∃ k : Nat, c = .int .i64 k ∧ k ≤ ks.length ∧ wr.ownsRow w0.heap.size 9 1 vk ((ks.take k).map f).length (strs ((ks.take k).map f)) ∧ Below w0.heap.size w0 wr) (fun _ c _ => ks.length - (intOf c).toNat)
  case atStart => exact ⟨0, rfl, by omega, ⟨by simp [strs], .inl ⟨rfl, rfl⟩⟩, Below.refl _ _⟩
  case round =>
    obtain ⟨k, rfl, hk, hown, hbel⟩ := hrel
    have HOwn := hid hown
    have HBe := hid hbel
    have hz := hbel.size
    clear hown hbel
    by_cases hlt : k < ks.length
    · obtain ⟨m', b, o, cap', rfl, hv, hg, hc⟩ := HR.out.cells (by omega)
      simp only [Value.slice.injEq, true_and] at hv
      obtain ⟨rfl, rfl⟩ := hv
      obtain ⟨u, c0, c1, c2, c3, hru⟩ := hc k hlt
      have q0 := (HBe.out.cell (p := ⟨b, o + k * 4, none⟩) hg).trans c0
      have q1 := (HBe.out.cell (p := ⟨b, o + k * 4 + 1, none⟩) hg).trans c1
      have q2 := (HBe.out.cell (p := ⟨b, o + k * 4 + 2, none⟩) hg).trans c2
      have q3 := (HBe.out.cell (p := ⟨b, o + k * 4 + 3, none⟩) hg).trans c3
      have HSn := hid (texts_map (f := f) hlt)
      have hkl := HSize.out k hlt
      have HCk := hid (fun (u : Value) (w : World) => HC.out m' k u w hlt rfl)
      obtain ⟨t2, ht⟩ : ∃ t, ks.getD k tz = t := ⟨_, rfl⟩
      rw [ht] at q0 q1 q2 hru HSn hkl
      simp only [ht] at HCk
      obtain ⟨su, cu, rfl⟩ := hru.slice
      obtain ⟨y0, y1, y2, ly, hq⟩ := Pt.of t2
      rw [hq.k] at q0
      rw [hq.n] at q1
      rw [hq.s] at q2
      rw [hq.l] at q3 hru
      have hAl := (Below.refl wr.heap.size wr).alloc (Nat.le_refl _) (.cells #[.int .i64 y0, .int .i64 y1, .string y2, .slice su ly cu] 25)
      have HRu := hid ((hru.on HBe.out).on hAl)
      have HQ := hid hq
      have HBeA := hid (HBe.out.trans (hAl.mono hz))
      have HAl := hid hAl
      have HLn := hid (show ((ks.take k).map f).length ≤ 1000000 by rw [List.length_map, List.length_take]; omega)
      obtain ⟨zs, hzs⟩ : ∃ l, (ks.take k).map f = l := ⟨_, rfl⟩
      rw [hzs] at HOwn HSn HLn
      obtain ⟨sk, ck, rfl⟩ := own_slice HOwn.out
      have hen := HEn.out
      have HKl := hid hkl
      clear hc c0 c1 c2 c3 hru ht hq hAl hzs hkl
      go_wp2_with fail
      rw [← HQ.out.val]
      refine (HCk.out _ _ HRu.out HBeA.out).mono ?_
      rintro e w3 ⟨rfl, hb3⟩
      have HB3 := hid (HBeA.out.trans (hb3.mono HBeA.out.size))
      have HOwn3 := hid (own_on (own_on HOwn.out HAl.out) hb3)
      have hz3 := hb3.size
      simp only [World.size_alloc] at hz3
      obtain ⟨s, hs⟩ : ∃ t, f t2 = t := ⟨_, rfl⟩
      rw [hs] at HSn HKl ⊢
      clear hb3 q0 q1 q2 q3 hen hs
      go_wp2_with (at_builtin; refine app_strs _ rfl _ _ rfl w0.heap.size zs [s] _ rfl (own_on HOwn3.out ((Below.refl _ _).alloc (Nat.le_refl _) _)) _ _ _ rfl rfl (src_strs _ [s] #[.string s] _ 1 rfl (by simp) rfl) (by have := HLn.out; simp only [List.length_cons, List.length_nil]; omega) (by simp; omega) ?_)
      intro v5 w5 hg5
      have HG5 := hid hg5
      clear hg5
      go_wp2_with fail
      go_roundw
      case rel =>
        have hbl := (HB3.out.alloc HB3.out.size (.cells #[.string s] 9)).trans (HG5.out.bel.mono (by first | exact Nat.le_refl _ | omega))
        exact ⟨k + 1, by go_num, by omega, by rw [HSn.out]; exact HG5.out.own, hbl⟩
      case measure => simp [intOf]; omega
    · obtain rfl : k = ks.length := by omega
      rw [List.take_length] at HOwn
      clear hk hlt
      have HLz := hid (show (ks.map f).length = ks.length by simp)
      obtain ⟨zs, hzs⟩ : ∃ l, ks.map f = l := ⟨_, rfl⟩
      rw [hzs] at HOwn HLz
      have HZs := hid hzs
      obtain ⟨sk, ck, rfl⟩ := own_slice HOwn.out
      rw [HLz.out] at HOwn ⊢
      clear hzs
      go_wp2_with fail
      go_ret
      exact ⟨_, _, rfl, by rw [HZs.out]; exact HOwn.out, HBe.out⟩
theorem slice_eq {a b : Option Addr} {n m c d : Nat} (h : Value.slice a n c = .slice b m d) : a = b ∧ c = d := by cases h; exact ⟨rfl, rfl⟩
theorem text_enter (xs : Array Value) (w : World) : (callFunc 76 xs).run Tryd.prog w = .ok (.enter 76 xs) w := by kernel_rfl
set_option maxRecDepth 100000 in
set_option maxHeartbeats 4000000 in
theorem text_c (h : Nat) : ∀ (n : Nat) (t : Tm) (kv : Value) (w : World), KRd w n kv t.kids → t.wide ≤ 1048576 → t.size ≤ 60 → shape h t = true → Tabs w → Tab w →
    Calls Tryd.prog 76 #[tmVal t kv] w (TPost (textT h t) w) := by
  induction h with
  | zero => intro n t kv w _ _ _ hs; simp [shape] at hs
  | succ h ih =>
    intro n t kv w hr hw hz hs hT hTb
    obtain ⟨hf, hks⟩ := shape_at hs
    have HI := hid ih
    have HR := hid hr
    have HWd := hid hw
    have HZ := hid hz
    have HSh := hid hks
    have HT := hid hT
    have HTb := hid hTb
    have HWi := hid (wide_eq t)
    have HSz := hid (size_eq t)
    have htot := text_len (h + 1) t hs hw
    have htl : (textT (h + 1) t).size ≤ 120000000 := by omega
    have HTl := hid htl
    have hcs := form_cases hf
    have hk2 := form_kids hf
    have hk05 := form_kind hf
    have HF := hid hf
    obtain ⟨a, cap, rfl⟩ := hr.slice
    clear ih hr hw hz hs hks hT hTb htot htl
    obtain ⟨x0, x1, x2, lk, hp⟩ := Pt.of t
    rw [hp.val]
    have hx2 : x2.size ≤ 1048576 := by rw [← hp.s]; have := HWi.out; have := HWd.out; omega
    rcases hcs with ⟨h0, h1, h2, h3⟩ | ⟨h0, h3⟩ | hcs
    · have HE := hid (show textT (h + 1) t = txt x1 by rw [textT, if_pos h0, hp.n])
      rw [hp.n] at h1 h2
      rw [hp.k] at h0
      rw [hp.l]
      subst h0
      clear hp hk2 hk05
      go_enter Tryd.func76, Tryd.ntmps76
      go_wp2_with fail
      have HB0 := hid ((Below.refl w.heap.size w).alloc (Nat.le_refl _) (.cells #[.int .i64 0, .int .i64 x1, .string x2, .slice a lk cap] 25))
      refine (Tryd.strconv_Itoa x1 (by omega) (by omega) _ (HTb.out.on HB0.out)).mono ?_
      rintro e w5 ⟨rfl, kk, os, rfl⟩
      have HB5 := hid (HB0.out.trans (Lib.below_grow w.heap.size (w.alloc (.cells #[.int .i64 0, .int .i64 x1, .string x2, .slice a lk cap] 25)) HB0.out.size kk os))
      generalize Sort.grow ((w.alloc (.cells #[.int .i64 0, .int .i64 x1, .string x2, .slice a lk cap] 25)).drewN kk) os = w5 at HB5 ⊢
      obtain ⟨d, hdd⟩ : ∃ d, txt x1 = d := ⟨_, rfl⟩
      have hd0 : (⟨(Lib.itoa x1).toArray⟩ : ByteArray) = d := hdd
      rw [hdd] at HE
      rw [hd0]
      clear hdd hd0
      go_wp2_with fail
      go_ret
      exact ⟨by rw [HE.out]; rfl, HB5.out⟩
    · have HE := hid (show textT (h + 1) t = x2 by rw [textT, if_neg (by omega), if_pos h0, hp.s])
      rw [hp.k] at h0
      rw [hp.l]
      subst h0
      clear hp hk2 hk05
      have HB0 := hid ((Below.refl w.heap.size w).alloc (Nat.le_refl _) (.cells #[.int .i64 1, .int .i64 x1, .string x2, .slice a lk cap] 25))
      go_enter Tryd.func76, Tryd.ntmps76
      go_wp2_with fail
      go_ret
      exact ⟨by rw [HE.out]; rfl, HB0.out⟩
    have hge : 2 ≤ t.kind := by rcases hcs with ⟨h, _⟩ | ⟨h, _⟩ | ⟨h, _⟩ | ⟨h, _⟩ <;> omega
    have hk1 : 1 ≤ t.kids.length := by rcases hcs with ⟨_, _, _, h⟩ | ⟨_, _, h⟩ | ⟨_, _, h⟩ | ⟨_, _, h⟩ <;> rw [h] <;> simp
    have HJ := hid (text_join (h := h) HF.out hge)
    clear hcs
    rw [hp.k] at hge hk05
    rw [hp.k, hp.s] at HJ
    rw [hp.l] at hk1 hk2 HR ⊢
    have hlk := hp.l
    clear hp
    obtain ⟨r, hre⟩ : ∃ r, textT (h + 1) t = r := ⟨_, rfl⟩
    rw [hre] at HJ HTl ⊢
    clear hre
    obtain ⟨ks, hks⟩ : ∃ l, t.kids = l := ⟨_, rfl⟩
    rw [hks] at HR hlk HSh HWi HSz HJ
    clear hks
    subst hlk
    obtain ⟨q, rfl⟩ := Int.eq_ofNat_of_zero_le hk05.1
    have hq6 : q < 6 := by omega
    have hq2 : 2 ≤ q := by omega
    rw [show ((q : Nat) : Int).toNat = q from rfl] at HJ
    obtain ⟨⟨fn, fl, fp, fa, fb⟩, hff⟩ : ∃ f, tforms.getD q .none = f := ⟨_, rfl⟩
    have hsz5 : fa.size ≤ 5 ∧ fb.size ≤ 5 := by
      have : ∀ q, q < 6 → (tforms.getD q .none).ahead.size ≤ 5 ∧ (tforms.getD q .none).behind.size ≤ 5 := by decide
      have := this q hq6
      rwa [hff] at this
    rw [hff] at HJ
    have hfa := hsz5.1
    have hfb := hsz5.2
    have HFo := hid (fun (wx : World) (hb : Below w.heap.size w wx) => by
      have hh := (HT.out.on hb).form q hq6
      rw [hff] at hh
      exact hh)
    clear hff hsz5 hge hk05
    have HB0 := hid ((Below.refl w.heap.size w).alloc (Nat.le_refl _) (.cells #[.int .i64 q, .int .i64 x1, .string x2, .slice a ks.length cap] 25))
    have HX0 := hid (Row.new w 25 #[.int .i64 q, .int .i64 x1, .string x2, .slice a ks.length cap])
    have hn0 : ¬ q = 0 := by omega
    have hn1 : ¬ q = 1 := by omega
    have hn0' : ¬ (q : Int) = 0 := by omega
    have hn1' : ¬ (q : Int) = 1 := by omega
    have HWk := hid (fun j (hj : j < ks.length) => (show (ks.getD j tz).wide ≤ 1048576 by have := wides_at ks j hj; have := HWi.out; have := HWd.out; omega))
    have HZk := hid (fun j (hj : j < ks.length) => (show (ks.getD j tz).size ≤ 60 by have := sizes_at ks j hj; have := HSz.out; have := HZ.out; omega))
    have HLk := hid (fun j (hj : j < ks.length) => (show (textT h (ks.getD j tz)).size ≤ 120000000 by have := text_len h (ks.getD j tz) (HSh.out j (by omega)) (HWk.out j hj); have := HZk.out j hj; omega))
    have HMp := hid (fun (wx : World) (hbx : Below w.heap.size w wx) => mappedS_c n (textT h) ks (.slice a ks.length cap) wx 76 #[] (HR.out.on hbx) (by omega) text_enter (fun n' j u wz hj _ hu hz => HI.out n' (ks.getD j tz) u wz hu (HWk.out j hj) (HZk.out j hj) (HSh.out j (by omega)) (HT.out.on (hbx.trans (hz.mono hbx.size))) (HTb.out.on (hbx.trans (hz.mono hbx.size)))) HLk.out)
    obtain ⟨xs, hxs⟩ : ∃ l, ks.map (textT h) = l := ⟨_, rfl⟩
    have hlen : xs.length = ks.length := by rw [← hxs]; simp
    have HLen := hid hlen
    rw [hxs] at HJ
    simp only [hxs] at HMp
    have hjl : (joinOf xs (sepOf x2)).size ≤ 120000000 := by
      have h1 := HTl.out
      rw [HJ.out, size_app, size_app] at h1
      omega
    have HJl := hid hjl
    have hf5 := HFo.out _ HB0.out
    obtain ⟨f0, f1, f2, f3, f4⟩ := hf5
    have HY0 := hid (Row.new (w.alloc (.cells #[.int .i64 q, .int .i64 x1, .string x2, .slice a ks.length cap] 25)) 128 #[.int .i64 fn, .int .i64 fl, .int .i64 fp, .string fa, .string fb])
    have HBy := hid (HB0.out.alloc HB0.out.size (.cells #[.int .i64 fn, .int .i64 fl, .int .i64 fp, .string fa, .string fb] 128))
    have HXy := hid (HX0.out.alloc (.cells #[.int .i64 fn, .int .i64 fl, .int .i64 fp, .string fa, .string fb] 128))
    simp only [World.size_alloc] at HY0
    clear hxs hlen
    go_enter Tryd.func76, Tryd.ntmps76
    go_upto_region 7 with fail
    generalize hwy : ((w.alloc (.cells #[.int .i64 q, .int .i64 x1, .string x2, .slice a ks.length cap] 25)).alloc (.cells #[.int .i64 fn, .int .i64 fl, .int .i64 fp, .string fa, .string fb] 128)) = wy at HY0 HBy HXy ⊢
    clear hwy f0 f1 f2 f3 f4
    have k0 := HY0.out.cell 3
    have k1 := HY0.out.cell 4
    have k2 := HXy.out.cell 2
    have k3 := HXy.out.cell 3
    simp at k0 k1 k2 k3
    have g0 := HY0.out.lt
    have g1 := HXy.out.lt
    have HS := hid (fun (wx : World) (hbx : Below wy.heap.size wy wx) => (show wx.cell? ⟨w.heap.size + 1, 3, none⟩ = some (.string fa) ∧ wx.cell? ⟨w.heap.size + 1, 4, none⟩ = some (.string fb) ∧ wx.cell? ⟨w.heap.size, 2, none⟩ = some (.string x2) ∧ wx.cell? ⟨w.heap.size, 3, none⟩ = some (.slice a ks.length cap) from
      ⟨(hbx.cell (p := ⟨w.heap.size + 1, 3, none⟩) g0).trans k0, (hbx.cell (p := ⟨w.heap.size + 1, 4, none⟩) g0).trans k1, (hbx.cell (p := ⟨w.heap.size, 2, none⟩) g1).trans k2, (hbx.cell (p := ⟨w.heap.size, 3, none⟩) g1).trans k3⟩))
    have HSp := hid (fun (wx : World) => spaced_c x2 wx hx2)
    have HMq := hid (fun (wx : World) (hbx : Below wy.heap.size wy wx) => HMp.out wx (HBy.out.trans (hbx.mono HBy.out.size)))
    have HJn := hid (fun (wx : World) (g cm : Nat) (base : Nat) (ho : wx.ownsRow base 9 1 (.slice (some ⟨g, 0, none⟩) ks.length cm) ks.length (strs xs)) => join_own (xs := xs) (n := ks.length) (sep := sepOf x2) ho HLen.out (by omega) (by have := HLen.out; omega) (by have := HJl.out; omega) (Below.refl _ _))
    clear k0 k1 k2 k3 HMp
    have HDr := hid (Below.refl wy.heap.size wy).drew
    obtain ⟨j, hj⟩ : ∃ j, joinOf xs (sepOf x2) = j := ⟨_, rfl⟩
    rw [hj] at HJ hjl
    simp only [hj] at HJn
    clear hj
    have HSe := hid (show (⟨#[32]⟩ : ByteArray) ++ x2 ++ ⟨#[32]⟩ = sepOf x2 from rfl)
    rw [HSe.out] at HSp
    generalize sepOf x2 = sep at HSp HJn HJl HSe
    have z1 : ¬ (9223372036854775807 < fa.size + j.size) := by omega
    have z2 : ¬ (9223372036854775807 < fa.size + j.size + fb.size) := by omega
    go_region_held3 (fun w' => w'.cell? ⟨w.heap.size + 1, 3, none⟩ = some (.string fa) ∧ w'.cell? ⟨w.heap.size + 1, 4, none⟩ = some (.string fb) ∧ w'.cell? ⟨w.heap.size, 2, none⟩ = some (.string x2) ∧ w'.cell? ⟨w.heap.size, 3, none⟩ = some (.slice a ks.length cap)) (first | exact HS.out _ HDr.out | exact HS.out _ HBa.out | exact HS.out _ HBj.out)
      (first
      | (go_at_call 115; (with_reducible refine (HSp.out _).mono ?_); rintro e wa ⟨rfl, rfl⟩)
      | (go_at_call 114; (with_reducible refine (HMq.out _ HDr.out).mono ?_); rintro e wm ⟨am, cm, rfl, howm, hbm⟩; have HOm := hid howm; have HBa := hid (HDr.out.trans (hbm.mono (Nat.le_refl _))); obtain ⟨g, cap2, hv2, hg1, hg2⟩ := own_addr HOm.out hk1; obtain ⟨ham, hcm⟩ := slice_eq hv2; subst ham; have HOa := hid HOm.out; clear howm hbm hv2 hg1 hg2 hcm)
      | (go_at_call 113; (with_reducible refine (HJn.out _ _ _ _ HOa.out).mono ?_); rintro e wb ⟨rfl, hbb⟩; have HBj := hid (HBa.out.trans (hbb.mono HBa.out.size)); clear hbb))
    all_goals
      go_wp2_with fail
      go_ret
      exact ⟨by rw [HJ.out]; rfl, HBy.out.trans (HBj.out.mono HBy.out.size)⟩
set_option maxHeartbeats 1000000 in
theorem termText_c (n : Nat) (t : Tm) (kv : Value) (w : World) (hr : KRd w n kv t.kids) (hw : t.wide ≤ 1048576) (hT : Tabs w) (hTb : Tab w) :
    Calls Tryd.prog 36 #[tmVal t kv] w (TPost (termTextOf t) w) := by
  have HR := hid hr
  have HWd := hid hw
  have HT := hid hT
  have HTb := hid hTb
  obtain ⟨a, cap, rfl⟩ := hr.slice
  clear hr hw hT hTb
  obtain ⟨x0, x1, x2, lk, hp⟩ := Pt.of t
  rw [hp.val]
  have HP := hid hp
  rw [hp.l] at HR ⊢
  clear hp
  have HB0 := hid ((Below.refl w.heap.size w).alloc (Nat.le_refl _) (.cells #[.int .i64 x0, .int .i64 x1, .string x2, .slice a lk cap] 25))
  have HX0 := hid (Row.new w 25 #[.int .i64 x0, .int .i64 x1, .string x2, .slice a lk cap])
  cases hok : termOk t
  · have HOk := hid hok
    have HE := hid (show termTextOf t = ⟨#[]⟩ by rw [termTextOf, hok]; rfl)
    clear hok
    go_enter Tryd.func36, Tryd.ntmps36
    go_wp2_with fail
    refine (termOk_v HP.out (HR.out.on HB0.out) HWd.out (HT.out.on HB0.out) HOk.out).mono ?_
    rintro e w1 ⟨rfl, hb1⟩
    have HB1 := hid (HB0.out.trans (hb1.mono HB0.out.size))
    clear hb1
    go_wp2_with fail
    go_ret
    exact ⟨by rw [HE.out]; rfl, HB1.out⟩
  · have HOk := hid hok
    obtain ⟨hsh, hsz⟩ := termOk_bd hok
    have HSh := hid hsh
    have HSz := hid hsz
    have HE := hid (show termTextOf t = textT 14 t by rw [termTextOf, hok]; rfl)
    clear hok hsh hsz
    go_enter Tryd.func36, Tryd.ntmps36
    go_wp2_with fail
    refine (termOk_v HP.out (HR.out.on HB0.out) HWd.out (HT.out.on HB0.out) HOk.out).mono ?_
    rintro e w1 ⟨rfl, hb1⟩
    have HB1 := hid (HB0.out.trans (hb1.mono HB0.out.size))
    have HX1 := hid (HX0.out.on hb1)
    clear hb1
    have d0 := HX1.out.cell 0
    have d1 := HX1.out.cell 1
    have d2 := HX1.out.cell 2
    have d3 := HX1.out.cell 3
    simp at d0 d1 d2 d3
    go_wp2_with fail
    refine (text_of_val (P := fun _ => True) HP.out (text_c 14 n t _ _ (HR.out.on HB1.out) HWd.out HSz.out HSh.out (HT.out.on HB1.out) (HTb.out.on HB1.out))).mono ?_
    rintro e w2 ⟨rfl, hb2⟩
    have HB2 := hid (HB1.out.trans (hb2.mono HB1.out.size))
    clear hb2
    obtain ⟨s, hs⟩ : ∃ s, textT 14 t = s := ⟨_, rfl⟩
    rw [hs] at HE ⊢
    clear hs
    go_wp2_with fail
    go_ret
    exact ⟨by rw [HE.out]; rfl, HB2.out⟩
end Go.Proofs.YtgenojpdjplccaaDoor.Um
