/- Simpler terms: what an operator of two simple terms is more simply, by the program. -/
import Derived.Test.YtffibmlgdacafaaDoorWf
set_option linter.unusedSimpArgs false
set_option linter.unusedVariables false
namespace Go.Proofs.YtffibmlgdacafaaDoor.Um
open Go.RowKit Pl Ft Mm In C2 Im

/-- What another function gives is handed on: it is put into a block of one's own. -/
theorem fold_pass {m lo G : Nat} {o : Option Tm} {w w1 w2 : World} {t : Tm} {v : Value} (h : ∀ r, o = some r → t = r ∧ ∀ x : World, w2.heap.size ≤ x.heap.size → (∀ k, k < G ∨ w1.heap.size ≤ k → k < w2.heap.size → x.heap[k]? = w2.heap[k]?) → KOwn x m lo x.heap.size v r.kids)
    {g : Nat} (hG : G ≤ g) (hg : g < w1.heap.size) (hw : w.heap.size ≤ w1.heap.size) (y0 y1 y2 y3 : Value) :
    ∀ r, o = some r → t = r ∧ ∀ x : World, ((((w2.setCell ⟨g, 0, none⟩ y0).setCell ⟨g, 1, none⟩ y1).setCell ⟨g, 2, none⟩ y2).setCell ⟨g, 3, none⟩ y3).heap.size ≤ x.heap.size → (∀ k, k < G ∨ w.heap.size ≤ k → k < ((((w2.setCell ⟨g, 0, none⟩ y0).setCell ⟨g, 1, none⟩ y1).setCell ⟨g, 2, none⟩ y2).setCell ⟨g, 3, none⟩ y3).heap.size → x.heap[k]? = ((((w2.setCell ⟨g, 0, none⟩ y0).setCell ⟨g, 1, none⟩ y1).setCell ⟨g, 2, none⟩ y2).setCell ⟨g, 3, none⟩ y3).heap[k]?) → KOwn x m lo x.heap.size v r.kids := by
  intro r hr
  obtain ⟨h1, h2⟩ := h r hr
  refine ⟨h1, fun x hx hk => h2 x (by rwa [four_size] at hx) (fun k hk1 hk2 => ?_)⟩
  have hne : k ≠ g := by omega
  rw [hk k (by omega) (by rw [four_size]; exact hk2), four_far _ _ _ hne]
theorem fold_lvl {m lo G : Nat} {o : Option Tm} {w1 w2 : World} {t : Tm} {v : Value} (h : ∀ r, o = some r → t = r ∧ ∀ x : World, w2.heap.size ≤ x.heap.size → (∀ k, k < G ∨ w1.heap.size ≤ k → k < w2.heap.size → x.heap[k]? = w2.heap[k]?) → KOwn x m lo x.heap.size v r.kids) :
    ∀ r, o = some r → t = r ∧ ∀ x : World, w2.heap.size ≤ x.heap.size → (∀ k, k < G ∨ w1.heap.size ≤ k → k < w2.heap.size → x.heap[k]? = w2.heap[k]?) → KOwn x (m + 1) lo x.heap.size v r.kids :=
  fun r hr => ⟨(h r hr).1, fun x hx hk => ((h r hr).2 x hx hk).mono (Nat.le_succ _)⟩
set_option maxRecDepth 100000 in
set_option maxHeartbeats 8000000 in
theorem simplerBin_c (m lo f0 g0 f1 g1 G h : Nat) (a b : Tm) (va vb : Value) (s : ByteArray) (w : World) (hs : shape h a = true) (hs2 : shape h b = true) (h14 : h ≤ 14) (ho : isOp s = true) (ha : KOwn w m f0 g0 va a.kids) (hb : KOwn w m f1 g1 vb b.kids)
    (hlo : lo ≤ f0) (hlo2 : lo ≤ f1) (hhi : g0 ≤ G) (hhi2 : g1 ≤ G) (hap : g0 ≤ f1 ∨ g1 ≤ f0) (hG : G ≤ w.heap.size) (hwa : a.wide ≤ 1048576) (hwb : b.wide ≤ 1048576) (hT : Tabs w) :
    Calls Tryd.prog 123 #[tmVal a va, .string s, tmVal b vb] w (FoldPost (m + 1) lo G (onceBin (sameT 14 a b) a s b) w) := by
  obtain ⟨sa, ca, rfl⟩ := ha.slice
  obtain ⟨sb, cb, rfl⟩ := hb.slice
  have HLw := hid (show lo ≤ w.heap.size by have := ha.le; omega)
  have HA := hid ha
  have HB := hid hb
  have HLo := hid (And.intro hlo hlo2)
  have HHi := hid (And.intro hhi hhi2)
  have HAp := hid hap
  have HG := hid hG
  have HT := hid hT
  have HSh := hid (And.intro hs hs2)
  have HWd := hid (And.intro hwa hwb)
  have HOp := hid ho
  clear ha hb hlo hlo2 hhi hhi2 hap hG hT hs hs2 hwa hwb
  obtain ⟨x0, x1, x2, la, hp⟩ := Pt.of a
  obtain ⟨y0, y1, y2, lb, hq⟩ := Pt.of b
  have HP := hid hp
  have HQ := hid hq
  have HOn := hid (show onceBin (sameT 14 a b) a s b = (if x0 = 0 ∧ y0 = 0 then some (nT (opVal s x1 y1)) else if x0 = 0 ∧ opIs s [[43], [42], [38], [124], [94], [61, 61]] = true then some (binT b s a) else if y0 = 0 then rightT a s y1 else if a.plain = true ∧ sameT 14 a b = true then twiceT a s else none) by rw [onceBin, hp.k, hq.k, hp.n, hq.n])
  rw [hp.val, hq.val]
  rw [hp.l] at HA ⊢
  rw [hq.l] at HB ⊢
  clear hp hq ho
  have HB0 := hid ((((Below.refl w.heap.size w).alloc (Nat.le_refl _) (.cells #[.int .i64 x0, .int .i64 x1, .string x2, .slice sa la ca] 28)).alloc (by simp) (.cells #[.int .i64 y0, .int .i64 y1, .string y2, .slice sb lb cb] 28)).alloc (by simp; omega) (.cells #[.int .i64 0, .int .i64 0, .string ⟨#[]⟩, .slice none 0 0] 28))
  have HX0 := hid (((Row.new w 28 #[.int .i64 x0, .int .i64 x1, .string x2, .slice sa la ca]).alloc (.cells #[.int .i64 y0, .int .i64 y1, .string y2, .slice sb lb cb] 28)).alloc (.cells #[.int .i64 0, .int .i64 0, .string ⟨#[]⟩, .slice none 0 0] 28))
  have HY0 := hid ((Row.new (w.alloc (.cells #[.int .i64 x0, .int .i64 x1, .string x2, .slice sa la ca] 28)) 28 #[.int .i64 y0, .int .i64 y1, .string y2, .slice sb lb cb]).alloc (.cells #[.int .i64 0, .int .i64 0, .string ⟨#[]⟩, .slice none 0 0] 28))
  have HZ0 := hid (Row.new ((w.alloc (.cells #[.int .i64 x0, .int .i64 x1, .string x2, .slice sa la ca] 28)).alloc (.cells #[.int .i64 y0, .int .i64 y1, .string y2, .slice sb lb cb] 28)) 28 #[.int .i64 0, .int .i64 0, .string ⟨#[]⟩, .slice none 0 0])
  simp only [World.size_alloc] at HY0 HZ0
  by_cases hx0 : x0 = 0
  · by_cases hy0 : y0 = 0
    · have HO := hid (show onceBin (sameT 14 a b) a s b = some (nT (opVal s x1 y1)) by rw [HOn.out, if_pos ⟨hx0, hy0⟩])
      have Hx := hid hx0
      have Hy := hid hy0
      clear hx0 hy0
      go_enter Tryd.func123, Tryd.ntmps123
      go_wp2_with fail
      refine (isNumber_v HP.out (.slice sa la ca) _).mono ?_
      rintro e w1 ⟨rfl, hbx⟩
      have HB1 := hid (HB0.out.trans (hbx.mono HB0.out.size))
      have HX1 := hid (HX0.out.on hbx)
      have HY1 := hid (HY0.out.on hbx)
      have HZ1 := hid (HZ0.out.on hbx)
      rw [show (x0 == 0) = true from by simpa using Hx.out]
      clear hbx
      have dx0 := HX1.out.cell 0
      have dx1 := HX1.out.cell 1
      have dx2 := HX1.out.cell 2
      have dx3 := HX1.out.cell 3
      simp at dx0 dx1 dx2 dx3
      have dy0 := HY1.out.cell 0
      have dy1 := HY1.out.cell 1
      have dy2 := HY1.out.cell 2
      have dy3 := HY1.out.cell 3
      simp at dy0 dy1 dy2 dy3
      have dz0 := HZ1.out.cell 0
      have dz1 := HZ1.out.cell 1
      have dz2 := HZ1.out.cell 2
      have dz3 := HZ1.out.cell 3
      simp at dz0 dz1 dz2 dz3
      have hfz := HZ1.out.free
      go_wp2_with fail
      refine (isNumber_v HQ.out (.slice sb lb cb) _).mono ?_
      rintro e w2 ⟨rfl, hbx⟩
      have HB2 := hid (HB1.out.trans (hbx.mono HB1.out.size))
      have HX2 := hid (HX1.out.on hbx)
      have HY2 := hid (HY1.out.on hbx)
      have HZ2 := hid (HZ1.out.on hbx)
      rw [show (y0 == 0) = true from by simpa using Hy.out]
      clear hbx
      clear dx0 dx1 dx2 dx3 dy0 dy1 dy2 dy3 dz0 dz1 dz2 dz3 hfz
      have dx0 := HX2.out.cell 0
      have dx1 := HX2.out.cell 1
      have dx2 := HX2.out.cell 2
      have dx3 := HX2.out.cell 3
      simp at dx0 dx1 dx2 dx3
      have dy0 := HY2.out.cell 0
      have dy1 := HY2.out.cell 1
      have dy2 := HY2.out.cell 2
      have dy3 := HY2.out.cell 3
      simp at dy0 dy1 dy2 dy3
      have dz0 := HZ2.out.cell 0
      have dz1 := HZ2.out.cell 1
      have dz2 := HZ2.out.cell 2
      have dz3 := HZ2.out.cell 3
      simp at dz0 dz1 dz2 dz3
      have hfz := HZ2.out.free
      go_wp2_with fail
      refine (operatorOf_c s _ (HT.out.on HB2.out)).mono ?_
      rintro e w3 ⟨rfl, hbx⟩
      have HB3 := hid (HB2.out.trans (hbx.mono HB2.out.size))
      have HX3 := hid (HX2.out.on hbx)
      have HY3 := hid (HY2.out.on hbx)
      have HZ3 := hid (HZ2.out.on hbx)
      clear hbx
      clear dx0 dx1 dx2 dx3 dy0 dy1 dy2 dy3 dz0 dz1 dz2 dz3 hfz
      have HOv := hid (show opVal s x1 y1 = opOf ((opFound s).getD .none) x1 y1 from rfl)
      unfold opPair Opr.val
      obtain ⟨⟨tt, tb, tn⟩, hto⟩ : ∃ o, (opFound s).getD .none = o := ⟨_, rfl⟩
      obtain ⟨so, hso⟩ : ∃ o, (opFound s).isSome = o := ⟨_, rfl⟩
      rw [hto] at HOv ⊢
      rw [hso]
      simp only
      clear hto hso
      have HBo := hid (HB3.out.alloc HB3.out.size (.cells #[.string tt, .bool tb, .int .i64 tn] 119))
      have HXo := hid (HX3.out.alloc (.cells #[.string tt, .bool tb, .int .i64 tn] 119))
      have HYo := hid (HY3.out.alloc (.cells #[.string tt, .bool tb, .int .i64 tn] 119))
      have HZo := hid (HZ3.out.alloc (.cells #[.string tt, .bool tb, .int .i64 tn] 119))
      have dx0 := HX3.out.cell 0
      have dx1 := HX3.out.cell 1
      have dx2 := HX3.out.cell 2
      have dx3 := HX3.out.cell 3
      simp at dx0 dx1 dx2 dx3
      have dy0 := HY3.out.cell 0
      have dy1 := HY3.out.cell 1
      have dy2 := HY3.out.cell 2
      have dy3 := HY3.out.cell 3
      simp at dy0 dy1 dy2 dy3
      have dz0 := HZ3.out.cell 0
      have dz1 := HZ3.out.cell 1
      have dz2 := HZ3.out.cell 2
      have dz3 := HZ3.out.cell 3
      simp at dz0 dz1 dz2 dz3
      have hfz := HZ3.out.free
      have hlx := HX3.out.lt
      have hly := HY3.out.lt
      have hlz := HZ3.out.lt
      go_wp2_with fail
      clear dx0 dx1 dx2 dx3 dy0 dy1 dy2 dy3 dz0 dz1 dz2 dz3 hfz
      refine (of_c ⟨tt, tb, tn⟩ x1 y1 _).mono ?_
      rintro e w4 ⟨rfl, hbx⟩
      rw [← HOv.out]
      have HB4 := hid (HBo.out.trans (hbx.mono HBo.out.size))
      have HX4 := hid (HXo.out.on hbx)
      have HY4 := hid (HYo.out.on hbx)
      have HZ4 := hid (HZo.out.on hbx)
      clear hbx
      obtain ⟨nv, hnv⟩ : ∃ q, opVal s x1 y1 = q := ⟨_, rfl⟩
      rw [hnv] at HO ⊢
      clear hnv HOv
      have dx0 := HX4.out.cell 0
      have dx1 := HX4.out.cell 1
      have dx2 := HX4.out.cell 2
      have dx3 := HX4.out.cell 3
      simp at dx0 dx1 dx2 dx3
      have dy0 := HY4.out.cell 0
      have dy1 := HY4.out.cell 1
      have dy2 := HY4.out.cell 2
      have dy3 := HY4.out.cell 3
      simp at dy0 dy1 dy2 dy3
      have dz0 := HZ4.out.cell 0
      have dz1 := HZ4.out.cell 1
      have dz2 := HZ4.out.cell 2
      have dz3 := HZ4.out.cell 3
      simp at dz0 dz1 dz2 dz3
      have hfz := HZ4.out.free
      go_wp2_with fail
      refine (numberTerm_c nv _).mono ?_
      rintro e w5 ⟨rfl, hbx⟩
      have HB5 := hid (HB4.out.trans (hbx.mono HB4.out.size))
      have HX5 := hid (HX4.out.on hbx)
      have HY5 := hid (HY4.out.on hbx)
      have HZ5 := hid (HZ4.out.on hbx)
      rw [nT_val]
      clear hbx
      clear dx0 dx1 dx2 dx3 dy0 dy1 dy2 dy3 dz0 dz1 dz2 dz3 hfz
      have dx0 := HX5.out.cell 0
      have dx1 := HX5.out.cell 1
      have dx2 := HX5.out.cell 2
      have dx3 := HX5.out.cell 3
      simp at dx0 dx1 dx2 dx3
      have dy0 := HY5.out.cell 0
      have dy1 := HY5.out.cell 1
      have dy2 := HY5.out.cell 2
      have dy3 := HY5.out.cell 3
      simp at dy0 dy1 dy2 dy3
      have dz0 := HZ5.out.cell 0
      have dz1 := HZ5.out.cell 1
      have dz2 := HZ5.out.cell 2
      have dz3 := HZ5.out.cell 3
      simp at dz0 dz1 dz2 dz3
      have hfz := HZ5.out.free
      go_wp2_with fail
      clear dx0 dx1 dx2 dx3 dy0 dy1 dy2 dy3 dz0 dz1 dz2 dz3 hfz
      refine bodyPost_ret (v := .tuple #[.agg #[.int .i64 0, .int .i64 (nv), .string ⟨#[]⟩, .slice none 0 0], .bool true]) ?_ rfl ?_
      · exact results_cell_tmp Tryd.results123 _ _ (w.heap.size + 1 + 1) _ _ rfl (four_row HZ5.out (.int .i64 0) (.int .i64 (nv)) (.string ⟨#[]⟩) (.slice none 0 0)) Tryd.underlying28 size_term
      · exact fold_num HO.out (four_bel HB5.out (show w.heap.size ≤ w.heap.size + 1 + 1 by omega) _ _ _ _) (by rw [four_size]; have := HB5.out.size; have := HLw.out; omega)
    obtain ⟨bt, hbt⟩ : ∃ q, opIs s [[43], [42], [38], [124], [94], [61, 61]] = q := ⟨_, rfl⟩
    have HTu := hid (fun (wx : World) => (show Calls Tryd.prog 150 #[.string s] wx (fun e w' => e = .returned (.bool bt) ∧ Below wx.heap.size wx w') from hbt ▸ isTurned_c s wx HOp.out))
    cases bt
    · have HO := hid (show onceBin (sameT 14 a b) a s b = (if a.plain = true ∧ sameT 14 a b = true then twiceT a s else none) by rw [HOn.out, if_neg (fun h => hy0 h.2), if_neg (fun h => by rw [hbt] at h; exact absurd h.2 (by decide)), if_neg hy0])
      clear hbt
      have Hx := hid hx0
      have Hy := hid hy0
      clear hx0 hy0
      go_enter Tryd.func123, Tryd.ntmps123
      go_wp2_with fail
      refine (isNumber_v HP.out (.slice sa la ca) _).mono ?_
      rintro e w1 ⟨rfl, hbx⟩
      have HB1 := hid (HB0.out.trans (hbx.mono HB0.out.size))
      have HX1 := hid (HX0.out.on hbx)
      have HY1 := hid (HY0.out.on hbx)
      have HZ1 := hid (HZ0.out.on hbx)
      rw [show (x0 == 0) = true from by simpa using Hx.out]
      clear hbx
      have dx0 := HX1.out.cell 0
      have dx1 := HX1.out.cell 1
      have dx2 := HX1.out.cell 2
      have dx3 := HX1.out.cell 3
      simp at dx0 dx1 dx2 dx3
      have dy0 := HY1.out.cell 0
      have dy1 := HY1.out.cell 1
      have dy2 := HY1.out.cell 2
      have dy3 := HY1.out.cell 3
      simp at dy0 dy1 dy2 dy3
      have dz0 := HZ1.out.cell 0
      have dz1 := HZ1.out.cell 1
      have dz2 := HZ1.out.cell 2
      have dz3 := HZ1.out.cell 3
      simp at dz0 dz1 dz2 dz3
      have hfz := HZ1.out.free
      go_wp2_with fail
      refine (isNumber_v HQ.out (.slice sb lb cb) _).mono ?_
      rintro e w2 ⟨rfl, hbx⟩
      have HB2 := hid (HB1.out.trans (hbx.mono HB1.out.size))
      have HX2 := hid (HX1.out.on hbx)
      have HY2 := hid (HY1.out.on hbx)
      have HZ2 := hid (HZ1.out.on hbx)
      rw [show (y0 == 0) = false from by simpa using Hy.out]
      clear hbx
      clear dx0 dx1 dx2 dx3 dy0 dy1 dy2 dy3 dz0 dz1 dz2 dz3 hfz
      have dx0 := HX2.out.cell 0
      have dx1 := HX2.out.cell 1
      have dx2 := HX2.out.cell 2
      have dx3 := HX2.out.cell 3
      simp at dx0 dx1 dx2 dx3
      have dy0 := HY2.out.cell 0
      have dy1 := HY2.out.cell 1
      have dy2 := HY2.out.cell 2
      have dy3 := HY2.out.cell 3
      simp at dy0 dy1 dy2 dy3
      have dz0 := HZ2.out.cell 0
      have dz1 := HZ2.out.cell 1
      have dz2 := HZ2.out.cell 2
      have dz3 := HZ2.out.cell 3
      simp at dz0 dz1 dz2 dz3
      have hfz := HZ2.out.free
      go_wp2_with fail
      refine (isNumber_v HP.out (.slice sa la ca) _).mono ?_
      rintro e w3 ⟨rfl, hbx⟩
      have HB3 := hid (HB2.out.trans (hbx.mono HB2.out.size))
      have HX3 := hid (HX2.out.on hbx)
      have HY3 := hid (HY2.out.on hbx)
      have HZ3 := hid (HZ2.out.on hbx)
      rw [show (x0 == 0) = true from by simpa using Hx.out]
      clear hbx
      clear dx0 dx1 dx2 dx3 dy0 dy1 dy2 dy3 dz0 dz1 dz2 dz3 hfz
      have dx0 := HX3.out.cell 0
      have dx1 := HX3.out.cell 1
      have dx2 := HX3.out.cell 2
      have dx3 := HX3.out.cell 3
      simp at dx0 dx1 dx2 dx3
      have dy0 := HY3.out.cell 0
      have dy1 := HY3.out.cell 1
      have dy2 := HY3.out.cell 2
      have dy3 := HY3.out.cell 3
      simp at dy0 dy1 dy2 dy3
      have dz0 := HZ3.out.cell 0
      have dz1 := HZ3.out.cell 1
      have dz2 := HZ3.out.cell 2
      have dz3 := HZ3.out.cell 3
      simp at dz0 dz1 dz2 dz3
      have hfz := HZ3.out.free
      go_wp2_with fail
      refine (HTu.out _).mono ?_
      rintro e w4 ⟨rfl, hbx⟩
      have HB4 := hid (HB3.out.trans (hbx.mono HB3.out.size))
      have HX4 := hid (HX3.out.on hbx)
      have HY4 := hid (HY3.out.on hbx)
      have HZ4 := hid (HZ3.out.on hbx)
      clear hbx
      clear dx0 dx1 dx2 dx3 dy0 dy1 dy2 dy3 dz0 dz1 dz2 dz3 hfz
      have dx0 := HX4.out.cell 0
      have dx1 := HX4.out.cell 1
      have dx2 := HX4.out.cell 2
      have dx3 := HX4.out.cell 3
      simp at dx0 dx1 dx2 dx3
      have dy0 := HY4.out.cell 0
      have dy1 := HY4.out.cell 1
      have dy2 := HY4.out.cell 2
      have dy3 := HY4.out.cell 3
      simp at dy0 dy1 dy2 dy3
      have dz0 := HZ4.out.cell 0
      have dz1 := HZ4.out.cell 1
      have dz2 := HZ4.out.cell 2
      have dz3 := HZ4.out.cell 3
      simp at dz0 dz1 dz2 dz3
      have hfz := HZ4.out.free
      go_wp2_with fail
      refine (isNumber_v HQ.out (.slice sb lb cb) _).mono ?_
      rintro e w5 ⟨rfl, hbx⟩
      have HB5 := hid (HB4.out.trans (hbx.mono HB4.out.size))
      have HX5 := hid (HX4.out.on hbx)
      have HY5 := hid (HY4.out.on hbx)
      have HZ5 := hid (HZ4.out.on hbx)
      rw [show (y0 == 0) = false from by simpa using Hy.out]
      clear hbx
      clear dx0 dx1 dx2 dx3 dy0 dy1 dy2 dy3 dz0 dz1 dz2 dz3 hfz
      have dx0 := HX5.out.cell 0
      have dx1 := HX5.out.cell 1
      have dx2 := HX5.out.cell 2
      have dx3 := HX5.out.cell 3
      simp at dx0 dx1 dx2 dx3
      have dy0 := HY5.out.cell 0
      have dy1 := HY5.out.cell 1
      have dy2 := HY5.out.cell 2
      have dy3 := HY5.out.cell 3
      simp at dy0 dy1 dy2 dy3
      have dz0 := HZ5.out.cell 0
      have dz1 := HZ5.out.cell 1
      have dz2 := HZ5.out.cell 2
      have dz3 := HZ5.out.cell 3
      simp at dz0 dz1 dz2 dz3
      have hfz := HZ5.out.free
      go_wp2_with fail
      obtain ⟨bp, hbp⟩ : ∃ q, a.plain = q := ⟨_, rfl⟩
      have HBp := hid hbp
      have HPl := hid (fun (wx : World) (hr : KRd wx m (.slice sa la ca) a.kids) => (show Calls Tryd.prog 152 #[.agg #[.int .i64 x0, .int .i64 x1, .string x2, .slice sa la ca]] wx (fun e w' => e = .returned (.bool bp) ∧ Below wx.heap.size wx w') from hbp ▸ isPlain_v HP.out HSh.out.1 hr))
      clear hbp
      refine (HPl.out _ (HA.out.on HB5.out).rd).mono ?_
      rintro e w6 ⟨rfl, hbx⟩
      have HB6 := hid (HB5.out.trans (hbx.mono HB5.out.size))
      have HX6 := hid (HX5.out.on hbx)
      have HY6 := hid (HY5.out.on hbx)
      have HZ6 := hid (HZ5.out.on hbx)
      clear hbx
      clear dx0 dx1 dx2 dx3 dy0 dy1 dy2 dy3 dz0 dz1 dz2 dz3 hfz
      have dx0 := HX6.out.cell 0
      have dx1 := HX6.out.cell 1
      have dx2 := HX6.out.cell 2
      have dx3 := HX6.out.cell 3
      simp at dx0 dx1 dx2 dx3
      have dy0 := HY6.out.cell 0
      have dy1 := HY6.out.cell 1
      have dy2 := HY6.out.cell 2
      have dy3 := HY6.out.cell 3
      simp at dy0 dy1 dy2 dy3
      have dz0 := HZ6.out.cell 0
      have dz1 := HZ6.out.cell 1
      have dz2 := HZ6.out.cell 2
      have dz3 := HZ6.out.cell 3
      simp at dz0 dz1 dz2 dz3
      have hfz := HZ6.out.free
      cases bp
      · have HN := hid (show onceBin (sameT 14 a b) a s b = none by rw [HO.out, HBp.out]; simp)
        go_wp2_with fail
        clear dx0 dx1 dx2 dx3 dy0 dy1 dy2 dy3 dz0 dz1 dz2 dz3 hfz
        refine bodyPost_ret (v := .tuple #[.agg #[.int .i64 0, .int .i64 0, .string ⟨#[]⟩, .slice none 0 0], .bool false]) ?_ rfl ?_
        · exact results_cell_tmp Tryd.results123 _ _ (w.heap.size + 1 + 1) _ _ rfl (four_row HZ6.out (.int .i64 0) (.int .i64 0) (.string ⟨#[]⟩) (.slice none 0 0)) Tryd.underlying28 size_term
        · rw [HN.out]
          exact fold_end (t := tz) (a := none) (c := 0) rfl (fun r hr => by cases hr) (four_bel HB6.out (show w.heap.size ≤ w.heap.size + 1 + 1 by omega) _ _ _ _) rfl
      go_wp2_with fail
      obtain ⟨bs, hbs⟩ : ∃ q, sameT 14 a b = q := ⟨_, rfl⟩
      have HBs := hid hbs
      have HSm := hid (fun (wx : World) (h1 : KRd wx m (.slice sa la ca) a.kids) (h2 : KRd wx m (.slice sb lb cb) b.kids) => (show Calls Tryd.prog 153 #[.agg #[.int .i64 x0, .int .i64 x1, .string x2, .slice sa la ca], .agg #[.int .i64 y0, .int .i64 y1, .string y2, .slice sb lb cb]] wx (fun e w' => e = .returned (.bool bs) ∧ Below wx.heap.size wx w') from by
        have := sameTerm_c 14 m m a b _ _ wx h1 h2 HWd.out.1 HWd.out.2 (shape_up HSh.out.1 h14)
        rw [hbs, HP.out.val, HQ.out.val] at this
        exact this))
      clear hbs
      refine (HSm.out _ (HA.out.on HB6.out).rd (HB.out.on HB6.out).rd).mono ?_
      rintro e w7 ⟨rfl, hbx⟩
      have HB7 := hid (HB6.out.trans (hbx.mono HB6.out.size))
      have HX7 := hid (HX6.out.on hbx)
      have HY7 := hid (HY6.out.on hbx)
      have HZ7 := hid (HZ6.out.on hbx)
      clear hbx
      clear dx0 dx1 dx2 dx3 dy0 dy1 dy2 dy3 dz0 dz1 dz2 dz3 hfz
      have dx0 := HX7.out.cell 0
      have dx1 := HX7.out.cell 1
      have dx2 := HX7.out.cell 2
      have dx3 := HX7.out.cell 3
      simp at dx0 dx1 dx2 dx3
      have dy0 := HY7.out.cell 0
      have dy1 := HY7.out.cell 1
      have dy2 := HY7.out.cell 2
      have dy3 := HY7.out.cell 3
      simp at dy0 dy1 dy2 dy3
      have dz0 := HZ7.out.cell 0
      have dz1 := HZ7.out.cell 1
      have dz2 := HZ7.out.cell 2
      have dz3 := HZ7.out.cell 3
      simp at dz0 dz1 dz2 dz3
      have hfz := HZ7.out.free
      cases bs
      · have HN := hid (show onceBin (sameT 14 a b) a s b = none by rw [HO.out, HBs.out]; simp)
        go_wp2_with fail
        clear dx0 dx1 dx2 dx3 dy0 dy1 dy2 dy3 dz0 dz1 dz2 dz3 hfz
        refine bodyPost_ret (v := .tuple #[.agg #[.int .i64 0, .int .i64 0, .string ⟨#[]⟩, .slice none 0 0], .bool false]) ?_ rfl ?_
        · exact results_cell_tmp Tryd.results123 _ _ (w.heap.size + 1 + 1) _ _ rfl (four_row HZ7.out (.int .i64 0) (.int .i64 0) (.string ⟨#[]⟩) (.slice none 0 0)) Tryd.underlying28 size_term
        · rw [HN.out]
          exact fold_end (t := tz) (a := none) (c := 0) rfl (fun r hr => by cases hr) (four_bel HB7.out (show w.heap.size ≤ w.heap.size + 1 + 1 by omega) _ _ _ _) rfl
      have HO := hid (show onceBin (sameT 14 a b) a s b = twiceT a s by rw [HO.out, HBs.out, HBp.out]; simp)
      go_wp2_with fail
      have HTw := hid (fun (wx : World) (h1 : KOwn wx m f0 g0 (.slice sa la ca) a.kids) (h2 : G ≤ wx.heap.size) => (show Calls Tryd.prog 154 #[.agg #[.int .i64 x0, .int .i64 x1, .string x2, .slice sa la ca], .string s] wx (FoldPost m lo G (twiceT a s) wx) from HP.out.val (.slice sa la ca) ▸ simplerTwice_c m lo f0 g0 G a (.slice sa la ca) s wx HOp.out h1 HLo.out.1 HHi.out.1 h2))
      have HOz := hid (show w.heap.size + 1 + 1 < w7.heap.size from HZ7.out.lt)
      refine (HTw.out _ (HA.out.on HB7.out) (by have := HG.out; have := HB7.out.size; omega)).mono ?_
      rintro e w8 ⟨t, sA, cA, rfl, hown, hbx⟩
      have HB8 := hid (HB7.out.trans (hbx.mono HB7.out.size))
      have HZ8 := hid (HZ7.out.on hbx)
      have HOw := hid hown
      clear hown hbx
      clear dx0 dx1 dx2 dx3 dy0 dy1 dy2 dy3 dz0 dz1 dz2 dz3 hfz
      obtain ⟨z0, z1, z2, lz, hr⟩ := Pt.of t
      rw [hr.val]
      rw [hr.l] at HOw ⊢
      have HR := hid hr
      clear hr
      obtain ⟨bo, hbo⟩ : ∃ q, (twiceT a s).isSome = q := ⟨_, rfl⟩
      have HBo := hid hbo
      rw [hbo]
      clear hbo
      have dz0 := HZ8.out.cell 0
      have dz1 := HZ8.out.cell 1
      have dz2 := HZ8.out.cell 2
      have dz3 := HZ8.out.cell 3
      simp at dz0 dz1 dz2 dz3
      have hfz := HZ8.out.free
      go_wp2_with fail
      clear dz0 dz1 dz2 dz3 hfz
      refine bodyPost_ret (v := .tuple #[.agg #[.int .i64 z0, .int .i64 z1, .string z2, .slice sA lz cA], .bool bo]) ?_ rfl ?_
      · exact results_cell_tmp Tryd.results123 _ _ (w.heap.size + 1 + 1) _ _ rfl (four_row HZ8.out (.int .i64 z0) (.int .i64 z1) (.string z2) (.slice sA lz cA)) Tryd.underlying28 size_term
      · rw [HO.out]
        refine fold_end (t := t) (a := sA) (c := cA) HBo.out ?_ (four_bel HB8.out (show w.heap.size ≤ w.heap.size + 1 + 1 by omega) _ _ _ _) (by rw [HR.out.val, HR.out.l])
        rw [HR.out.l]
        exact fold_pass (fold_lvl HOw.out) (by have := HG.out; omega) HOz.out (by have := HB7.out.size; omega) _ _ _ _
    · have HO := hid (show onceBin (sameT 14 a b) a s b = some (binT b s a) by rw [HOn.out, if_neg (fun h => hy0 h.2), if_pos ⟨hx0, hbt⟩])
      clear hbt
      have Hx := hid hx0
      have Hy := hid hy0
      clear hx0 hy0
      go_enter Tryd.func123, Tryd.ntmps123
      go_wp2_with fail
      refine (isNumber_v HP.out (.slice sa la ca) _).mono ?_
      rintro e w1 ⟨rfl, hbx⟩
      have HB1 := hid (HB0.out.trans (hbx.mono HB0.out.size))
      have HX1 := hid (HX0.out.on hbx)
      have HY1 := hid (HY0.out.on hbx)
      have HZ1 := hid (HZ0.out.on hbx)
      rw [show (x0 == 0) = true from by simpa using Hx.out]
      clear hbx
      have dx0 := HX1.out.cell 0
      have dx1 := HX1.out.cell 1
      have dx2 := HX1.out.cell 2
      have dx3 := HX1.out.cell 3
      simp at dx0 dx1 dx2 dx3
      have dy0 := HY1.out.cell 0
      have dy1 := HY1.out.cell 1
      have dy2 := HY1.out.cell 2
      have dy3 := HY1.out.cell 3
      simp at dy0 dy1 dy2 dy3
      have dz0 := HZ1.out.cell 0
      have dz1 := HZ1.out.cell 1
      have dz2 := HZ1.out.cell 2
      have dz3 := HZ1.out.cell 3
      simp at dz0 dz1 dz2 dz3
      have hfz := HZ1.out.free
      go_wp2_with fail
      refine (isNumber_v HQ.out (.slice sb lb cb) _).mono ?_
      rintro e w2 ⟨rfl, hbx⟩
      have HB2 := hid (HB1.out.trans (hbx.mono HB1.out.size))
      have HX2 := hid (HX1.out.on hbx)
      have HY2 := hid (HY1.out.on hbx)
      have HZ2 := hid (HZ1.out.on hbx)
      rw [show (y0 == 0) = false from by simpa using Hy.out]
      clear hbx
      clear dx0 dx1 dx2 dx3 dy0 dy1 dy2 dy3 dz0 dz1 dz2 dz3 hfz
      have dx0 := HX2.out.cell 0
      have dx1 := HX2.out.cell 1
      have dx2 := HX2.out.cell 2
      have dx3 := HX2.out.cell 3
      simp at dx0 dx1 dx2 dx3
      have dy0 := HY2.out.cell 0
      have dy1 := HY2.out.cell 1
      have dy2 := HY2.out.cell 2
      have dy3 := HY2.out.cell 3
      simp at dy0 dy1 dy2 dy3
      have dz0 := HZ2.out.cell 0
      have dz1 := HZ2.out.cell 1
      have dz2 := HZ2.out.cell 2
      have dz3 := HZ2.out.cell 3
      simp at dz0 dz1 dz2 dz3
      have hfz := HZ2.out.free
      go_wp2_with fail
      refine (isNumber_v HP.out (.slice sa la ca) _).mono ?_
      rintro e w3 ⟨rfl, hbx⟩
      have HB3 := hid (HB2.out.trans (hbx.mono HB2.out.size))
      have HX3 := hid (HX2.out.on hbx)
      have HY3 := hid (HY2.out.on hbx)
      have HZ3 := hid (HZ2.out.on hbx)
      rw [show (x0 == 0) = true from by simpa using Hx.out]
      clear hbx
      clear dx0 dx1 dx2 dx3 dy0 dy1 dy2 dy3 dz0 dz1 dz2 dz3 hfz
      have dx0 := HX3.out.cell 0
      have dx1 := HX3.out.cell 1
      have dx2 := HX3.out.cell 2
      have dx3 := HX3.out.cell 3
      simp at dx0 dx1 dx2 dx3
      have dy0 := HY3.out.cell 0
      have dy1 := HY3.out.cell 1
      have dy2 := HY3.out.cell 2
      have dy3 := HY3.out.cell 3
      simp at dy0 dy1 dy2 dy3
      have dz0 := HZ3.out.cell 0
      have dz1 := HZ3.out.cell 1
      have dz2 := HZ3.out.cell 2
      have dz3 := HZ3.out.cell 3
      simp at dz0 dz1 dz2 dz3
      have hfz := HZ3.out.free
      go_wp2_with fail
      refine (HTu.out _).mono ?_
      rintro e w4 ⟨rfl, hbx⟩
      have HB4 := hid (HB3.out.trans (hbx.mono HB3.out.size))
      have HX4 := hid (HX3.out.on hbx)
      have HY4 := hid (HY3.out.on hbx)
      have HZ4 := hid (HZ3.out.on hbx)
      clear hbx
      clear dx0 dx1 dx2 dx3 dy0 dy1 dy2 dy3 dz0 dz1 dz2 dz3 hfz
      have dx0 := HX4.out.cell 0
      have dx1 := HX4.out.cell 1
      have dx2 := HX4.out.cell 2
      have dx3 := HX4.out.cell 3
      simp at dx0 dx1 dx2 dx3
      have dy0 := HY4.out.cell 0
      have dy1 := HY4.out.cell 1
      have dy2 := HY4.out.cell 2
      have dy3 := HY4.out.cell 3
      simp at dy0 dy1 dy2 dy3
      have dz0 := HZ4.out.cell 0
      have dz1 := HZ4.out.cell 1
      have dz2 := HZ4.out.cell 2
      have dz3 := HZ4.out.cell 3
      simp at dz0 dz1 dz2 dz3
      have hfz := HZ4.out.free
      go_wp2_with fail
      have HBn := hid (fun (wx : World) => (show Calls Tryd.prog 99 #[.agg #[.int .i64 y0, .int .i64 y1, .string y2, .slice sb lb cb], .string s, .agg #[.int .i64 x0, .int .i64 x1, .string x2, .slice sa la ca]] wx (MadePost (binT b s a) [.slice sb lb cb, .slice sa la ca] wx) from HP.out.val (.slice sa la ca) ▸ HQ.out.val (.slice sb lb cb) ▸ binTerm_c s b a (.slice sb lb cb) (.slice sa la ca) wx))
      refine (HBn.out _).mono ?_
      rintro e w5 ⟨sN, cN, rfl, hrowN, hbx⟩
      have HB5 := hid (HB4.out.trans (hbx.mono HB4.out.size))
      have HX5 := hid (HX4.out.on hbx)
      have HY5 := hid (HY4.out.on hbx)
      have HZ5 := hid (HZ4.out.on hbx)
      rw [show tmVal (binT b s a) (.slice sN (binT b s a).kids.length cN) = .agg #[.int .i64 2, .int .i64 0, .string s, .slice sN 2 cN] from rfl]
      have HRowN := hid (show w5.ownsRow w4.heap.size 28 4 (.slice sN 2 cN) 2 (tCells [b, a] [.slice sb lb cb, .slice sa la ca]) from hrowN)
      have HB45 := hid hbx
      clear hrowN
      clear hbx
      clear dx0 dx1 dx2 dx3 dy0 dy1 dy2 dy3 dz0 dz1 dz2 dz3 hfz
      have dx0 := HX5.out.cell 0
      have dx1 := HX5.out.cell 1
      have dx2 := HX5.out.cell 2
      have dx3 := HX5.out.cell 3
      simp at dx0 dx1 dx2 dx3
      have dy0 := HY5.out.cell 0
      have dy1 := HY5.out.cell 1
      have dy2 := HY5.out.cell 2
      have dy3 := HY5.out.cell 3
      simp at dy0 dy1 dy2 dy3
      have dz0 := HZ5.out.cell 0
      have dz1 := HZ5.out.cell 1
      have dz2 := HZ5.out.cell 2
      have dz3 := HZ5.out.cell 3
      simp at dz0 dz1 dz2 dz3
      have hfz := HZ5.out.free
      go_wp2_with fail
      clear dx0 dx1 dx2 dx3 dy0 dy1 dy2 dy3 dz0 dz1 dz2 dz3 hfz
      refine bodyPost_ret (v := .tuple #[.agg #[.int .i64 2, .int .i64 0, .string s, .slice sN 2 cN], .bool true]) ?_ rfl ?_
      · exact results_cell_tmp Tryd.results123 _ _ (w.heap.size + 1 + 1) _ _ rfl (four_row HZ5.out (.int .i64 2) (.int .i64 0) (.string s) (.slice sN 2 cN)) Tryd.underlying28 size_term
      have hz0 := HZ4.out.lt
      have hz2 := HB45.out.size
      have hlo := HLo.out
      have hhi := HHi.out
      have hlw := HLw.out
      have hgg := HG.out
      have hap := HAp.out
      have hbf := four_bel HB5.out (show w.heap.size ≤ w.heap.size + 1 + 1 by omega) (.int .i64 2) (.int .i64 0) (.string s) (.slice sN 2 cN)
      have hrw := own_four HRowN.out hz0 (.int .i64 2) (.int .i64 0) (.string s) (.slice sN 2 cN)
      rw [HO.out]
      refine fold_end (t := binT b s a) (a := sN) (c := cN) rfl (fun r hr => ?_) hbf rfl
      obtain rfl : binT b s a = r := Option.some.inj hr
      exact ⟨rfl, fun x hx hk => own_bin (own_same hrw (fun g hg => hk g (.inr (by have := (hrw.lt g hg).1; omega)) ((hrw.lt g hg).2))) (keep_old HB.out HHi.out.2 HG.out hbf x hk) (keep_old HA.out HHi.out.1 HG.out hbf x hk) (by omega) (by omega) (by omega) (by omega) (by omega) (by omega) (by rw [four_size] at hx; omega)⟩
  by_cases hy0 : y0 = 0
  · have HO := hid (show onceBin (sameT 14 a b) a s b = rightT a s y1 by rw [HOn.out, if_neg (fun h => hx0 h.1), if_neg (fun h => hx0 h.1), if_pos hy0])
    have hyn : 0 ≤ y1 ∧ y1 ≤ 65535 := by have := num_of HSh.out.2 (by rw [HQ.out.k]; exact hy0); rwa [HQ.out.n] at this
    have HRi := hid (fun (wx : World) (h1 : KOwn wx m f0 g0 (.slice sa la ca) a.kids) (h2 : G ≤ wx.heap.size) (h3 : Tabs wx) => (show Calls Tryd.prog 151 #[.agg #[.int .i64 x0, .int .i64 x1, .string x2, .slice sa la ca], .string s, .int .i64 y1] wx (FoldPost (m + 1) lo G (rightT a s y1) wx) from HP.out.val (.slice sa la ca) ▸ simplerAhead_c m lo f0 g0 G h a (.slice sa la ca) s y1 wx HSh.out.1 HOp.out hyn h1 HLo.out.1 HHi.out.1 h2 h3))
    clear hyn
    have Hx := hid hx0
    have Hy := hid hy0
    clear hx0 hy0
    go_enter Tryd.func123, Tryd.ntmps123
    go_wp2_with fail
    refine (isNumber_v HP.out (.slice sa la ca) _).mono ?_
    rintro e w1 ⟨rfl, hbx⟩
    have HB1 := hid (HB0.out.trans (hbx.mono HB0.out.size))
    have HX1 := hid (HX0.out.on hbx)
    have HY1 := hid (HY0.out.on hbx)
    have HZ1 := hid (HZ0.out.on hbx)
    rw [show (x0 == 0) = false from by simpa using Hx.out]
    clear hbx
    have dx0 := HX1.out.cell 0
    have dx1 := HX1.out.cell 1
    have dx2 := HX1.out.cell 2
    have dx3 := HX1.out.cell 3
    simp at dx0 dx1 dx2 dx3
    have dy0 := HY1.out.cell 0
    have dy1 := HY1.out.cell 1
    have dy2 := HY1.out.cell 2
    have dy3 := HY1.out.cell 3
    simp at dy0 dy1 dy2 dy3
    have dz0 := HZ1.out.cell 0
    have dz1 := HZ1.out.cell 1
    have dz2 := HZ1.out.cell 2
    have dz3 := HZ1.out.cell 3
    simp at dz0 dz1 dz2 dz3
    have hfz := HZ1.out.free
    go_wp2_with fail
    refine (isNumber_v HP.out (.slice sa la ca) _).mono ?_
    rintro e w2 ⟨rfl, hbx⟩
    have HB2 := hid (HB1.out.trans (hbx.mono HB1.out.size))
    have HX2 := hid (HX1.out.on hbx)
    have HY2 := hid (HY1.out.on hbx)
    have HZ2 := hid (HZ1.out.on hbx)
    rw [show (x0 == 0) = false from by simpa using Hx.out]
    clear hbx
    clear dx0 dx1 dx2 dx3 dy0 dy1 dy2 dy3 dz0 dz1 dz2 dz3 hfz
    have dx0 := HX2.out.cell 0
    have dx1 := HX2.out.cell 1
    have dx2 := HX2.out.cell 2
    have dx3 := HX2.out.cell 3
    simp at dx0 dx1 dx2 dx3
    have dy0 := HY2.out.cell 0
    have dy1 := HY2.out.cell 1
    have dy2 := HY2.out.cell 2
    have dy3 := HY2.out.cell 3
    simp at dy0 dy1 dy2 dy3
    have dz0 := HZ2.out.cell 0
    have dz1 := HZ2.out.cell 1
    have dz2 := HZ2.out.cell 2
    have dz3 := HZ2.out.cell 3
    simp at dz0 dz1 dz2 dz3
    have hfz := HZ2.out.free
    go_wp2_with fail
    refine (isNumber_v HQ.out (.slice sb lb cb) _).mono ?_
    rintro e w3 ⟨rfl, hbx⟩
    have HB3 := hid (HB2.out.trans (hbx.mono HB2.out.size))
    have HX3 := hid (HX2.out.on hbx)
    have HY3 := hid (HY2.out.on hbx)
    have HZ3 := hid (HZ2.out.on hbx)
    rw [show (y0 == 0) = true from by simpa using Hy.out]
    clear hbx
    clear dx0 dx1 dx2 dx3 dy0 dy1 dy2 dy3 dz0 dz1 dz2 dz3 hfz
    have dx0 := HX3.out.cell 0
    have dx1 := HX3.out.cell 1
    have dx2 := HX3.out.cell 2
    have dx3 := HX3.out.cell 3
    simp at dx0 dx1 dx2 dx3
    have dy0 := HY3.out.cell 0
    have dy1 := HY3.out.cell 1
    have dy2 := HY3.out.cell 2
    have dy3 := HY3.out.cell 3
    simp at dy0 dy1 dy2 dy3
    have dz0 := HZ3.out.cell 0
    have dz1 := HZ3.out.cell 1
    have dz2 := HZ3.out.cell 2
    have dz3 := HZ3.out.cell 3
    simp at dz0 dz1 dz2 dz3
    have hfz := HZ3.out.free
    go_wp2_with fail
    have HOz := hid (show w.heap.size + 1 + 1 < w3.heap.size from HZ3.out.lt)
    refine (HRi.out _ (HA.out.on HB3.out) (by have := HG.out; have := HB3.out.size; omega) (HT.out.on HB3.out)).mono ?_
    rintro e w4 ⟨t, sA, cA, rfl, hown, hbx⟩
    have HB4 := hid (HB3.out.trans (hbx.mono HB3.out.size))
    have HZ4 := hid (HZ3.out.on hbx)
    have HOw := hid hown
    clear hown hbx
    clear dx0 dx1 dx2 dx3 dy0 dy1 dy2 dy3 dz0 dz1 dz2 dz3 hfz
    obtain ⟨z0, z1, z2, lz, hr⟩ := Pt.of t
    rw [hr.val]
    rw [hr.l] at HOw ⊢
    have HR := hid hr
    clear hr
    obtain ⟨bo, hbo⟩ : ∃ q, (rightT a s y1).isSome = q := ⟨_, rfl⟩
    have HBo := hid hbo
    rw [hbo]
    clear hbo
    have dz0 := HZ4.out.cell 0
    have dz1 := HZ4.out.cell 1
    have dz2 := HZ4.out.cell 2
    have dz3 := HZ4.out.cell 3
    simp at dz0 dz1 dz2 dz3
    have hfz := HZ4.out.free
    go_wp2_with fail
    clear dz0 dz1 dz2 dz3 hfz
    refine bodyPost_ret (v := .tuple #[.agg #[.int .i64 z0, .int .i64 z1, .string z2, .slice sA lz cA], .bool bo]) ?_ rfl ?_
    · exact results_cell_tmp Tryd.results123 _ _ (w.heap.size + 1 + 1) _ _ rfl (four_row HZ4.out (.int .i64 z0) (.int .i64 z1) (.string z2) (.slice sA lz cA)) Tryd.underlying28 size_term
    · rw [HO.out]
      refine fold_end (t := t) (a := sA) (c := cA) HBo.out ?_ (four_bel HB4.out (show w.heap.size ≤ w.heap.size + 1 + 1 by omega) _ _ _ _) (by rw [HR.out.val, HR.out.l])
      rw [HR.out.l]
      exact fold_pass (HOw.out) (by have := HG.out; omega) HOz.out (by have := HB3.out.size; omega) _ _ _ _
  · have HO := hid (show onceBin (sameT 14 a b) a s b = (if a.plain = true ∧ sameT 14 a b = true then twiceT a s else none) by rw [HOn.out, if_neg (fun h => hx0 h.1), if_neg (fun h => hx0 h.1), if_neg hy0])
    have Hx := hid hx0
    have Hy := hid hy0
    clear hx0 hy0
    go_enter Tryd.func123, Tryd.ntmps123
    go_wp2_with fail
    refine (isNumber_v HP.out (.slice sa la ca) _).mono ?_
    rintro e w1 ⟨rfl, hbx⟩
    have HB1 := hid (HB0.out.trans (hbx.mono HB0.out.size))
    have HX1 := hid (HX0.out.on hbx)
    have HY1 := hid (HY0.out.on hbx)
    have HZ1 := hid (HZ0.out.on hbx)
    rw [show (x0 == 0) = false from by simpa using Hx.out]
    clear hbx
    have dx0 := HX1.out.cell 0
    have dx1 := HX1.out.cell 1
    have dx2 := HX1.out.cell 2
    have dx3 := HX1.out.cell 3
    simp at dx0 dx1 dx2 dx3
    have dy0 := HY1.out.cell 0
    have dy1 := HY1.out.cell 1
    have dy2 := HY1.out.cell 2
    have dy3 := HY1.out.cell 3
    simp at dy0 dy1 dy2 dy3
    have dz0 := HZ1.out.cell 0
    have dz1 := HZ1.out.cell 1
    have dz2 := HZ1.out.cell 2
    have dz3 := HZ1.out.cell 3
    simp at dz0 dz1 dz2 dz3
    have hfz := HZ1.out.free
    go_wp2_with fail
    refine (isNumber_v HP.out (.slice sa la ca) _).mono ?_
    rintro e w2 ⟨rfl, hbx⟩
    have HB2 := hid (HB1.out.trans (hbx.mono HB1.out.size))
    have HX2 := hid (HX1.out.on hbx)
    have HY2 := hid (HY1.out.on hbx)
    have HZ2 := hid (HZ1.out.on hbx)
    rw [show (x0 == 0) = false from by simpa using Hx.out]
    clear hbx
    clear dx0 dx1 dx2 dx3 dy0 dy1 dy2 dy3 dz0 dz1 dz2 dz3 hfz
    have dx0 := HX2.out.cell 0
    have dx1 := HX2.out.cell 1
    have dx2 := HX2.out.cell 2
    have dx3 := HX2.out.cell 3
    simp at dx0 dx1 dx2 dx3
    have dy0 := HY2.out.cell 0
    have dy1 := HY2.out.cell 1
    have dy2 := HY2.out.cell 2
    have dy3 := HY2.out.cell 3
    simp at dy0 dy1 dy2 dy3
    have dz0 := HZ2.out.cell 0
    have dz1 := HZ2.out.cell 1
    have dz2 := HZ2.out.cell 2
    have dz3 := HZ2.out.cell 3
    simp at dz0 dz1 dz2 dz3
    have hfz := HZ2.out.free
    go_wp2_with fail
    refine (isNumber_v HQ.out (.slice sb lb cb) _).mono ?_
    rintro e w3 ⟨rfl, hbx⟩
    have HB3 := hid (HB2.out.trans (hbx.mono HB2.out.size))
    have HX3 := hid (HX2.out.on hbx)
    have HY3 := hid (HY2.out.on hbx)
    have HZ3 := hid (HZ2.out.on hbx)
    rw [show (y0 == 0) = false from by simpa using Hy.out]
    clear hbx
    clear dx0 dx1 dx2 dx3 dy0 dy1 dy2 dy3 dz0 dz1 dz2 dz3 hfz
    have dx0 := HX3.out.cell 0
    have dx1 := HX3.out.cell 1
    have dx2 := HX3.out.cell 2
    have dx3 := HX3.out.cell 3
    simp at dx0 dx1 dx2 dx3
    have dy0 := HY3.out.cell 0
    have dy1 := HY3.out.cell 1
    have dy2 := HY3.out.cell 2
    have dy3 := HY3.out.cell 3
    simp at dy0 dy1 dy2 dy3
    have dz0 := HZ3.out.cell 0
    have dz1 := HZ3.out.cell 1
    have dz2 := HZ3.out.cell 2
    have dz3 := HZ3.out.cell 3
    simp at dz0 dz1 dz2 dz3
    have hfz := HZ3.out.free
    go_wp2_with fail
    obtain ⟨bp, hbp⟩ : ∃ q, a.plain = q := ⟨_, rfl⟩
    have HBp := hid hbp
    have HPl := hid (fun (wx : World) (hr : KRd wx m (.slice sa la ca) a.kids) => (show Calls Tryd.prog 152 #[.agg #[.int .i64 x0, .int .i64 x1, .string x2, .slice sa la ca]] wx (fun e w' => e = .returned (.bool bp) ∧ Below wx.heap.size wx w') from hbp ▸ isPlain_v HP.out HSh.out.1 hr))
    clear hbp
    refine (HPl.out _ (HA.out.on HB3.out).rd).mono ?_
    rintro e w4 ⟨rfl, hbx⟩
    have HB4 := hid (HB3.out.trans (hbx.mono HB3.out.size))
    have HX4 := hid (HX3.out.on hbx)
    have HY4 := hid (HY3.out.on hbx)
    have HZ4 := hid (HZ3.out.on hbx)
    clear hbx
    clear dx0 dx1 dx2 dx3 dy0 dy1 dy2 dy3 dz0 dz1 dz2 dz3 hfz
    have dx0 := HX4.out.cell 0
    have dx1 := HX4.out.cell 1
    have dx2 := HX4.out.cell 2
    have dx3 := HX4.out.cell 3
    simp at dx0 dx1 dx2 dx3
    have dy0 := HY4.out.cell 0
    have dy1 := HY4.out.cell 1
    have dy2 := HY4.out.cell 2
    have dy3 := HY4.out.cell 3
    simp at dy0 dy1 dy2 dy3
    have dz0 := HZ4.out.cell 0
    have dz1 := HZ4.out.cell 1
    have dz2 := HZ4.out.cell 2
    have dz3 := HZ4.out.cell 3
    simp at dz0 dz1 dz2 dz3
    have hfz := HZ4.out.free
    cases bp
    · have HN := hid (show onceBin (sameT 14 a b) a s b = none by rw [HO.out, HBp.out]; simp)
      go_wp2_with fail
      clear dx0 dx1 dx2 dx3 dy0 dy1 dy2 dy3 dz0 dz1 dz2 dz3 hfz
      refine bodyPost_ret (v := .tuple #[.agg #[.int .i64 0, .int .i64 0, .string ⟨#[]⟩, .slice none 0 0], .bool false]) ?_ rfl ?_
      · exact results_cell_tmp Tryd.results123 _ _ (w.heap.size + 1 + 1) _ _ rfl (four_row HZ4.out (.int .i64 0) (.int .i64 0) (.string ⟨#[]⟩) (.slice none 0 0)) Tryd.underlying28 size_term
      · rw [HN.out]
        exact fold_end (t := tz) (a := none) (c := 0) rfl (fun r hr => by cases hr) (four_bel HB4.out (show w.heap.size ≤ w.heap.size + 1 + 1 by omega) _ _ _ _) rfl
    go_wp2_with fail
    obtain ⟨bs, hbs⟩ : ∃ q, sameT 14 a b = q := ⟨_, rfl⟩
    have HBs := hid hbs
    have HSm := hid (fun (wx : World) (h1 : KRd wx m (.slice sa la ca) a.kids) (h2 : KRd wx m (.slice sb lb cb) b.kids) => (show Calls Tryd.prog 153 #[.agg #[.int .i64 x0, .int .i64 x1, .string x2, .slice sa la ca], .agg #[.int .i64 y0, .int .i64 y1, .string y2, .slice sb lb cb]] wx (fun e w' => e = .returned (.bool bs) ∧ Below wx.heap.size wx w') from by
      have := sameTerm_c 14 m m a b _ _ wx h1 h2 HWd.out.1 HWd.out.2 (shape_up HSh.out.1 h14)
      rw [hbs, HP.out.val, HQ.out.val] at this
      exact this))
    clear hbs
    refine (HSm.out _ (HA.out.on HB4.out).rd (HB.out.on HB4.out).rd).mono ?_
    rintro e w5 ⟨rfl, hbx⟩
    have HB5 := hid (HB4.out.trans (hbx.mono HB4.out.size))
    have HX5 := hid (HX4.out.on hbx)
    have HY5 := hid (HY4.out.on hbx)
    have HZ5 := hid (HZ4.out.on hbx)
    clear hbx
    clear dx0 dx1 dx2 dx3 dy0 dy1 dy2 dy3 dz0 dz1 dz2 dz3 hfz
    have dx0 := HX5.out.cell 0
    have dx1 := HX5.out.cell 1
    have dx2 := HX5.out.cell 2
    have dx3 := HX5.out.cell 3
    simp at dx0 dx1 dx2 dx3
    have dy0 := HY5.out.cell 0
    have dy1 := HY5.out.cell 1
    have dy2 := HY5.out.cell 2
    have dy3 := HY5.out.cell 3
    simp at dy0 dy1 dy2 dy3
    have dz0 := HZ5.out.cell 0
    have dz1 := HZ5.out.cell 1
    have dz2 := HZ5.out.cell 2
    have dz3 := HZ5.out.cell 3
    simp at dz0 dz1 dz2 dz3
    have hfz := HZ5.out.free
    cases bs
    · have HN := hid (show onceBin (sameT 14 a b) a s b = none by rw [HO.out, HBs.out]; simp)
      go_wp2_with fail
      clear dx0 dx1 dx2 dx3 dy0 dy1 dy2 dy3 dz0 dz1 dz2 dz3 hfz
      refine bodyPost_ret (v := .tuple #[.agg #[.int .i64 0, .int .i64 0, .string ⟨#[]⟩, .slice none 0 0], .bool false]) ?_ rfl ?_
      · exact results_cell_tmp Tryd.results123 _ _ (w.heap.size + 1 + 1) _ _ rfl (four_row HZ5.out (.int .i64 0) (.int .i64 0) (.string ⟨#[]⟩) (.slice none 0 0)) Tryd.underlying28 size_term
      · rw [HN.out]
        exact fold_end (t := tz) (a := none) (c := 0) rfl (fun r hr => by cases hr) (four_bel HB5.out (show w.heap.size ≤ w.heap.size + 1 + 1 by omega) _ _ _ _) rfl
    have HO := hid (show onceBin (sameT 14 a b) a s b = twiceT a s by rw [HO.out, HBs.out, HBp.out]; simp)
    go_wp2_with fail
    have HTw := hid (fun (wx : World) (h1 : KOwn wx m f0 g0 (.slice sa la ca) a.kids) (h2 : G ≤ wx.heap.size) => (show Calls Tryd.prog 154 #[.agg #[.int .i64 x0, .int .i64 x1, .string x2, .slice sa la ca], .string s] wx (FoldPost m lo G (twiceT a s) wx) from HP.out.val (.slice sa la ca) ▸ simplerTwice_c m lo f0 g0 G a (.slice sa la ca) s wx HOp.out h1 HLo.out.1 HHi.out.1 h2))
    have HOz := hid (show w.heap.size + 1 + 1 < w5.heap.size from HZ5.out.lt)
    refine (HTw.out _ (HA.out.on HB5.out) (by have := HG.out; have := HB5.out.size; omega)).mono ?_
    rintro e w6 ⟨t, sA, cA, rfl, hown, hbx⟩
    have HB6 := hid (HB5.out.trans (hbx.mono HB5.out.size))
    have HZ6 := hid (HZ5.out.on hbx)
    have HOw := hid hown
    clear hown hbx
    clear dx0 dx1 dx2 dx3 dy0 dy1 dy2 dy3 dz0 dz1 dz2 dz3 hfz
    obtain ⟨z0, z1, z2, lz, hr⟩ := Pt.of t
    rw [hr.val]
    rw [hr.l] at HOw ⊢
    have HR := hid hr
    clear hr
    obtain ⟨bo, hbo⟩ : ∃ q, (twiceT a s).isSome = q := ⟨_, rfl⟩
    have HBo := hid hbo
    rw [hbo]
    clear hbo
    have dz0 := HZ6.out.cell 0
    have dz1 := HZ6.out.cell 1
    have dz2 := HZ6.out.cell 2
    have dz3 := HZ6.out.cell 3
    simp at dz0 dz1 dz2 dz3
    have hfz := HZ6.out.free
    go_wp2_with fail
    clear dz0 dz1 dz2 dz3 hfz
    refine bodyPost_ret (v := .tuple #[.agg #[.int .i64 z0, .int .i64 z1, .string z2, .slice sA lz cA], .bool bo]) ?_ rfl ?_
    · exact results_cell_tmp Tryd.results123 _ _ (w.heap.size + 1 + 1) _ _ rfl (four_row HZ6.out (.int .i64 z0) (.int .i64 z1) (.string z2) (.slice sA lz cA)) Tryd.underlying28 size_term
    · rw [HO.out]
      refine fold_end (t := t) (a := sA) (c := cA) HBo.out ?_ (four_bel HB6.out (show w.heap.size ≤ w.heap.size + 1 + 1 by omega) _ _ _ _) (by rw [HR.out.val, HR.out.l])
      rw [HR.out.l]
      exact fold_pass (fold_lvl HOw.out) (by have := HG.out; omega) HOz.out (by have := HB5.out.size; omega) _ _ _ _
end Go.Proofs.YtffibmlgdacafaaDoor.Um
