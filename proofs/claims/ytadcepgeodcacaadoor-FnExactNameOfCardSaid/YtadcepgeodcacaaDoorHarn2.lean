/- The laws' own helpers over names and images: toName, toNameS, toImage. -/
import Derived.Test.YtadcepgeodcacaaDoorHarn
set_option linter.unusedSimpArgs false
set_option linter.unusedVariables false
namespace Go.Proofs.YtadcepgeodcacaaDoor.Im
open Go.RowKit Pl Ft Mm In C2

theorem toName_c (n : Nm) (w : World) : Calls Tryd.prog 57 #[.agg #[.string n.text, .int .i64 n.at_]] w fun e w' => e = .returned (.agg #[.string n.text, .int .i64 n.at_]) ∧ Below w.heap.size w w' := by
  go_enter Tryd.func57, Tryd.ntmps57
  go_wp2
  refine bodyPost_ret (v := .agg #[.string n.text, .int .i64 n.at_]) (by simp [results, Tryd.results57, go_sem]) rfl ⟨rfl, ?_⟩
  repeat' first | exact Below.refl _ _ | (refine Below.setCell ?_ (by simp; try omega) _) | (refine Below.alloc ?_ (by simp; try omega) _)
theorem info_name : (Tryd.prog.info? 67).map (fun i => (i.zero, i.size, i.bytes)) = some (some (.agg #[.string ⟨#[]⟩, .int .i64 0]), 2, 24) := by kernel_rfl
theorem nm_step (l : List Nm) (Z : List Value) (k : Nat) (h : k < l.length) (hz : Z.length = l.length * 2) :
    ((nmCells (l.take k) ++ Z.drop (k * 2)).set (k * 2) (.string (l.getD k .none).text)).set (k * 2 + 1) (.int .i64 (l.getD k .none).at_) = nmCells (l.take (k + 1)) ++ Z.drop ((k + 1) * 2) := by
  have e0 : Z.drop (k * 2) = Z[k * 2]'(by omega) :: Z.drop (k * 2 + 1) := List.drop_eq_getElem_cons (by omega)
  have e1 : Z.drop (k * 2 + 1) = Z[k * 2 + 1]'(by omega) :: Z.drop (k * 2 + 1 + 1) := List.drop_eq_getElem_cons (by omega)
  have e2 : l.take (k + 1) = l.take k ++ [l.getD k .none] := by rw [List.take_succ_eq_append_getElem h]; simp [h]
  have hl : (nmCells (l.take k)).length = k * 2 := by rw [nmCells_len, List.length_take]; omega
  have e3 : nmCells (l.take k ++ [l.getD k .none]) = nmCells (l.take k) ++ [.string (l.getD k .none).text, .int .i64 (l.getD k .none).at_] := by
    simp only [nmCells, List.flatMap_append, List.flatMap_cons, List.flatMap_nil, List.append_nil, Nm.cells]
  have e4 : (k + 1) * 2 = k * 2 + 1 + 1 := by omega
  rw [e0, e1, e2, e3, e4, List.set_append_right _ _ (by omega), hl, Nat.sub_self, List.set_cons_zero, List.set_append_right _ _ (by omega), hl, Nat.add_sub_cancel_left, List.set_cons_succ, List.set_cons_zero, List.append_assoc]
  rfl
set_option maxHeartbeats 1000000 in
theorem toNameS_c (l : List Nm) (v : Value) (w : World) (ha : NRd w v l) (hl : l.length ≤ 1048576) :
    Calls Tryd.prog 31 #[v] w fun e w' => ∃ v', e = .returned v' ∧ w'.ownsRow w.heap.size 67 2 v' l.length (nmCells l) ∧ Below w.heap.size w w' := by
  obtain ⟨a, cap, rfl, ha⟩ := ha
  have HA := hid ha
  clear ha
  obtain ⟨i0, hi, hz0, hz1, hz2⟩ := info_parts info_name
  have H0 := hid hz0
  have H1 := hid hz1
  have H2 := hid hz2
  have HI := hid hi
  clear hz0 hz1 hz2 hi
  go_enter Tryd.func31, Tryd.ntmps31
  go_wp2_with (refine wpList_make_full _ rfl _ _ 38 rfl w.heap.size 67 i0 (.agg #[.string ⟨#[]⟩, .int .i64 0]) 2 Tryd.underlying38 HI.out H0.out H1.out .i64 .i64 _ _ l.length rfl rfl rfl rfl (by rw [H2.out]; omega) (by simp only [maxLen]; omega) (Nat.le_refl _) ?_; intro w1 hown1 hg1)
  obtain ⟨Z, hZ⟩ : ∃ Z, (madeCells (Value.cells (.agg #[.string ⟨#[]⟩, .int .i64 0])) (l.length * 2)).toList = Z := ⟨_, rfl⟩
  rw [hZ] at hown1
  have HZ := hid hown1.1
  have HO := hid hown1
  have HB1 := hid ((Below.refl w.heap.size w).grown hg1 (Nat.le_refl _) (by simp))
  clear hown1 hg1 hZ
  go_loopw [4] (fun c wr => ∃ k : Nat, c = .int .i64 k ∧ k ≤ l.length ∧ wr.ownsRow w.heap.size 67 2 (.slice (some ⟨w.heap.size, 0, none⟩) l.length l.length) l.length (nmCells (l.take k) ++ Z.drop (k * 2)) ∧ Below w.heap.size w wr) (fun c _ => l.length - (intOf c).toNat)
  case atStart => exact ⟨0, rfl, by omega, by simpa [nmCells] using HO.out, HB1.out⟩
  case round =>
    obtain ⟨k, rfl, hk, hown, hbel⟩ := hrel
    by_cases hlt : k < l.length
    · rcases HA.out with h | ⟨g, o, rfl, hg, hc⟩
      · subst h; simp at hlt
      obtain ⟨c0, c1⟩ := hc k hlt
      have q1 : wr.cell? ⟨g, o + k * 2, none⟩ = some (.string (l.getD k .none).text) := (hbel.cell (p := ⟨g, o + k * 2, none⟩) hg).trans c0
      have q2 : wr.cell? ⟨g, o + k * 2 + 1, none⟩ = some (.int .i64 (l.getD k .none).at_) := (hbel.cell (p := ⟨g, o + k * 2 + 1, none⟩) hg).trans c1
      obtain ⟨t, ht⟩ : ∃ t, (l.getD k .none).text = t := ⟨_, rfl⟩
      obtain ⟨x, hx⟩ : ∃ t, (l.getD k .none).at_ = t := ⟨_, rfl⟩
      rw [ht] at q1
      rw [hx] at q2
      have HT := hid ht
      have HX := hid hx
      have HOw := hid hown
      have HBe := hid hbel
      clear hown hbel hc c0 c1 ht hx
      go_wp2_with fail
      refine (toName_c ⟨t, x⟩ _).mono ?_
      rintro e w2 ⟨rfl, hb2⟩
      have HO2 := hid (own_on HOw.out hb2)
      have HB2 := hid (HBe.out.trans (hb2.mono HBe.out.size))
      have hz2 := HO2.out.lt w.heap.size rfl
      clear hb2
      have hc0 := HO2.out.cellAt (k * 2) (by omega)
      have hc1 := HO2.out.cellAt (k * 2 + 1) (by omega)
      have hlen : k * 2 + 1 < (nmCells (l.take k) ++ Z.drop (k * 2)).length := by have := HZ.out; rw [List.length_append, nmCells_len, List.length_take, List.length_drop]; omega
      rw [List.getElem?_eq_getElem (by omega)] at hc0
      rw [List.getElem?_eq_getElem hlen] at hc1
      have hf0 := HO2.out.frozenAt (k * 2)
      have hf1 := HO2.out.frozenAt (k * 2 + 1)
      have hst := ((HO2.out.stored (k * 2) (.string t)).1.stored (k * 2 + 1) (.int .i64 x)).1
      have hstep := nm_step l Z k hlt HZ.out
      rw [HT.out, HX.out] at hstep
      rw [hstep] at hst
      have HS := hid hst
      have HB3 := hid ((HB2.out.setCell (p := ⟨w.heap.size, k * 2, none⟩) (Nat.le_refl _) (.string t)).setCell (p := ⟨w.heap.size, k * 2 + 1, none⟩) (Nat.le_refl _) (.int .i64 x))
      obtain ⟨u0, hu0⟩ : ∃ u, (nmCells (l.take k) ++ Z.drop (k * 2))[k * 2]'(by omega) = u := ⟨_, rfl⟩
      obtain ⟨u1, hu1⟩ : ∃ u, (nmCells (l.take k) ++ Z.drop (k * 2))[k * 2 + 1]'hlen = u := ⟨_, rfl⟩
      rw [hu0] at hc0
      rw [hu1] at hc1
      clear hst hstep hlen hu0 hu1 q1 q2
      go_wp2_with fail
      go_roundw
      case rel => exact ⟨k + 1, by go_num, by omega, HS.out, HB3.out⟩
      case measure => simp [intOf]; omega
    · obtain rfl : k = l.length := by omega
      have HO2 := hid hown
      have HB2 := hid hbel
      clear hown hbel
      go_wp2_with fail
      go_ret
      exact ⟨_, rfl, by have := HO2.out; rwa [List.take_length, List.drop_of_length_le (by rw [HZ.out]; exact Nat.le_refl _), List.append_nil] at this, HB2.out⟩
/-- An image in memory of one's own. -/
structure IOwn (w : World) (B : Nat) (vc vd vn : Value) (m : Img) : Prop where
  c : w.ownsRow B 3 1 vc m.code.length (ints m.code)
  d : w.ownsRow B 3 1 vd m.data.length (ints m.data)
  n : w.ownsRow B 67 2 vn m.names.length (nmCells m.names)
  ne : ∀ g, vc.ownBlock = some g → vd.ownBlock ≠ some g
theorem IOwn.cells {w : World} {B : Nat} {vc vd vn : Value} {m : Img} (h : IOwn w B vc vd vn m) : ICells w vc vd vn m := ⟨.of_own h.c, .of_own h.d, .of_own h.n, own_cap h.n⟩
theorem IOwn.on {w w' : World} {B : Nat} {vc vd vn : Value} {m : Img} (h : IOwn w B vc vd vn m) (hb : Below w.heap.size w w') : IOwn w' B vc vd vn m := ⟨own_on h.c hb, own_on h.d hb, own_on h.n hb, h.ne⟩
def ImgPost (m : Img) (w : World) (e : Ending) (w' : World) : Prop := ∃ vc vd vn, e = .returned (imgVal vc vd vn m) ∧ IOwn w' w.heap.size vc vd vn m ∧ Below w.heap.size w w'
theorem own_far {w : World} {base : Nat} {e : TypeId} {size : Nat} {v : Value} {n : Nat} {xs : List Value} (h : w.ownsRow base e size v n xs) {p : Addr} (hp : ∀ g, v.ownBlock = some g → g ≠ p.block) (u : Value) : (w.setCell p u).ownsRow base e size v n xs := by
  refine ⟨h.1, ?_⟩
  rcases h.2 with h0 | ⟨g, cap, cur, rfl, hg, hr, hrest⟩
  · exact .inl h0
  · exact .inr ⟨g, cap, cur, rfl, hg, (Below.heap_setCell w p u g (hp g rfl)).trans hr, hrest⟩
theorem size_img : (Tryd.prog.info? 40).map (·.size) = some 5 := by kernel_rfl
theorem rd_below {B : Nat} {w w' : World} {v : Value} {xs : List Int} (h : Rd w v xs) (hb : Below w.heap.size w w') : Rd w' v xs := h.on hb
theorem five_row {w : World} {g : Nat} {t : TypeId} {x0 x1 x2 x3 x4 : Value} (h : Row w g t #[x0, x1, x2, x3, x4]) (vc : Value) (e r : Int) (vd vn : Value) :
    Row (((((w.setCell ⟨g, 0, none⟩ vc).setCell ⟨g, 1, none⟩ (.int .i64 e)).setCell ⟨g, 2, none⟩ (.int .i64 r)).setCell ⟨g, 3, none⟩ vd).setCell ⟨g, 4, none⟩ vn) g t #[vc, .int .i64 e, .int .i64 r, vd, vn] := ((((h.set 0 _).set 1 _).set 2 _).set 3 _).set 4 _
theorem five_bel {B : Nat} {w w' : World} {g : Nat} (h : Below B w w') (hg : B ≤ g) (y0 y1 y2 y3 y4 : Value) : Below B w (((((w'.setCell ⟨g, 0, none⟩ y0).setCell ⟨g, 1, none⟩ y1).setCell ⟨g, 2, none⟩ y2).setCell ⟨g, 3, none⟩ y3).setCell ⟨g, 4, none⟩ y4) := by
  have h0 := h.setCell (p := ⟨g, 0, none⟩) hg y0
  have h1 := h0.setCell (p := ⟨g, 1, none⟩) hg y1
  have h2 := h1.setCell (p := ⟨g, 2, none⟩) hg y2
  have h3 := h2.setCell (p := ⟨g, 3, none⟩) hg y3
  exact h3.setCell (p := ⟨g, 4, none⟩) hg y4
theorem own_far5 {w : World} {base : Nat} {e : TypeId} {size : Nat} {v : Value} {n : Nat} {xs : List Value} (h : w.ownsRow base e size v n xs) {g : Nat} (hg : ∀ b, v.ownBlock = some b → b ≠ g) (y0 y1 y2 y3 y4 : Value) :
    (((((w.setCell ⟨g, 0, none⟩ y0).setCell ⟨g, 1, none⟩ y1).setCell ⟨g, 2, none⟩ y2).setCell ⟨g, 3, none⟩ y3).setCell ⟨g, 4, none⟩ y4).ownsRow base e size v n xs :=
  own_far (own_far (own_far (own_far (own_far h (p := ⟨g, 0, none⟩) hg y0) (p := ⟨g, 1, none⟩) hg y1) (p := ⟨g, 2, none⟩) hg y2) (p := ⟨g, 3, none⟩) hg y3) (p := ⟨g, 4, none⟩) hg y4
set_option maxHeartbeats 1000000 in
theorem toImage_c (m : Img) (vc vd vn : Value) (w : World) (hc : Rd w vc m.code) (hd : Rd w vd m.data) (hn : NRd w vn m.names) (hs : Sm m) :
    Calls Tryd.prog 13 #[imgVal vc vd vn m] w (ImgPost m w) := by
  have HC := hid hc
  have HD := hid hd
  have HN := hid hn
  have hlc := hs.c
  have hld := hs.d
  have hln := hs.n
  clear hc hd hn hs
  unfold imgVal
  go_enter Tryd.func13, Tryd.ntmps13
  go_wp2_with fail
  have ha1 := (Below.refl w.heap.size w).alloc (Nat.le_refl _) (.cells #[vc, .int .i64 m.entry, .int .i64 m.room, vd, vn] 35)
  have ha2 := ha1.alloc ha1.size (.cells #[.slice none 0 0, .int .i64 0, .int .i64 0, .slice none 0 0, .slice none 0 0] 40)
  have HB0 := hid (ha2.alloc ha2.size (.cells #[.slice none 0 0, .int .i64 0, .int .i64 0, .slice none 0 0, .slice none 0 0] 40))
  clear ha1 ha2
  have HX0 := hid (((Row.new w 35 #[vc, .int .i64 m.entry, .int .i64 m.room, vd, vn]).alloc (.cells #[.slice none 0 0, .int .i64 0, .int .i64 0, .slice none 0 0, .slice none 0 0] 40)).alloc (.cells #[.slice none 0 0, .int .i64 0, .int .i64 0, .slice none 0 0, .slice none 0 0] 40))
  have HR0 := hid (((Row.new (w.alloc (.cells #[vc, .int .i64 m.entry, .int .i64 m.room, vd, vn] 35)) 40 #[.slice none 0 0, .int .i64 0, .int .i64 0, .slice none 0 0, .slice none 0 0])).alloc (.cells #[.slice none 0 0, .int .i64 0, .int .i64 0, .slice none 0 0, .slice none 0 0] 40))
  have HO0 := hid (Row.new ((w.alloc (.cells #[vc, .int .i64 m.entry, .int .i64 m.room, vd, vn] 35)).alloc (.cells #[.slice none 0 0, .int .i64 0, .int .i64 0, .slice none 0 0, .slice none 0 0] 40)) 40 #[.slice none 0 0, .int .i64 0, .int .i64 0, .slice none 0 0, .slice none 0 0])
  simp only [World.size_alloc] at HR0 HO0
  refine (toIntS_c m.code vc _ (HC.out.on HB0.out) hlc).mono ?_
  rintro e w1 ⟨v1, rfl, hown1, hb1⟩
  obtain ⟨s1, c1, rfl⟩ := own_slice hown1
  have hz1 := hb1.size
  simp only [World.size_alloc] at hz1
  have HX1 := hid (HX0.out.on hb1)
  have HR1 := hid (HR0.out.on hb1)
  have HO1 := hid (HO0.out.on hb1)
  have HB1 := hid (HB0.out.trans (hb1.mono HB0.out.size))
  simp only [World.size_alloc] at hown1
  have HOwn1 := hid hown1
  clear hown1 hb1
  have b0 := HX1.out.cell 0
  have b1 := HX1.out.cell 1
  have b2 := HX1.out.cell 2
  have b3 := HX1.out.cell 3
  have b4 := HX1.out.cell 4
  have o0 := HO1.out.cell 0
  have o1 := HO1.out.cell 1
  have o2 := HO1.out.cell 2
  simp at b0 b1 b2 b3 b4 o0 o1 o2
  have hfo := HO1.out.free
  go_wp2_with fail
  clear b0 b1 b2 b3 b4 o0 o1 o2 hfo
  have HX2 := hid (((HX1.out.far (p := ⟨w.heap.size + 1 + 1, 0, none⟩) (by first | (simp; done) | (simp; omega)) (.slice s1 m.code.length c1)).far (p := ⟨w.heap.size + 1 + 1, 1, none⟩) (by first | (simp; done) | (simp; omega)) (.int .i64 m.entry)).far (p := ⟨w.heap.size + 1 + 1, 2, none⟩) (by first | (simp; done) | (simp; omega)) (.int .i64 m.room))
  have HR2 := hid (((HR1.out.far (p := ⟨w.heap.size + 1 + 1, 0, none⟩) (by first | (simp; done) | (simp; omega)) (.slice s1 m.code.length c1)).far (p := ⟨w.heap.size + 1 + 1, 1, none⟩) (by first | (simp; done) | (simp; omega)) (.int .i64 m.entry)).far (p := ⟨w.heap.size + 1 + 1, 2, none⟩) (by first | (simp; done) | (simp; omega)) (.int .i64 m.room))
  have HO2 := hid (((HO1.out.set 0 (.slice s1 m.code.length c1)).set 1 (.int .i64 m.entry)).set 2 (.int .i64 m.room))
  have HB2 := hid (((HB1.out.setCell (p := ⟨w.heap.size + 1 + 1, 0, none⟩) (by first | (simp; done) | (simp; omega)) (.slice s1 m.code.length c1)).setCell (p := ⟨w.heap.size + 1 + 1, 1, none⟩) (by first | (simp; done) | (simp; omega)) (.int .i64 m.entry)).setCell (p := ⟨w.heap.size + 1 + 1, 2, none⟩) (by first | (simp; done) | (simp; omega)) (.int .i64 m.room))
  have hne1 : ∀ g, (Value.slice s1 m.code.length c1).ownBlock = some g → g ≠ w.heap.size + 1 + 1 := fun g hg => by have := (HOwn1.out.lt g hg).1; omega
  have HOwn2 := hid (own_far (own_far (own_far HOwn1.out (p := ⟨w.heap.size + 1 + 1, 0, none⟩) hne1 (.slice s1 m.code.length c1)) (p := ⟨w.heap.size + 1 + 1, 1, none⟩) hne1 (.int .i64 m.entry)) (p := ⟨w.heap.size + 1 + 1, 2, none⟩) hne1 (.int .i64 m.room))
  have HNe1 := hid hne1
  clear hne1
  refine (toIntS_c m.data vd _ (HD.out.on HB2.out) hld).mono ?_
  rintro e w2 ⟨v2, rfl, hown2, hb2⟩
  obtain ⟨s2, c2, rfl⟩ := own_slice hown2
  have hz2 := hb2.size
  simp only [World.size_setCell] at hz2
  have HX3 := hid (HX2.out.on hb2)
  have HR3 := hid (HR2.out.on hb2)
  have HO3 := hid (HO2.out.on hb2)
  have HB3 := hid (HB2.out.trans (hb2.mono HB2.out.size))
  have HOwn3 := hid (own_on HOwn2.out hb2)
  simp only [World.size_setCell] at hown2
  have HOwn4 := hid hown2
  clear hown2 hb2
  have b4 := HX3.out.cell 4
  have o3 := HO3.out.cell 3
  simp at b4 o3
  have hfo := HO3.out.free
  go_wp2_with fail
  clear b4 o3 hfo
  have HR4 := hid (HR3.out.far (p := ⟨w.heap.size + 1 + 1, 3, none⟩) (by first | (simp; done) | (simp; omega)) (.slice s2 m.data.length c2))
  have HO4 := hid (HO3.out.set 3 (.slice s2 m.data.length c2))
  have HB4 := hid (HB3.out.setCell (p := ⟨w.heap.size + 1 + 1, 3, none⟩) (by first | (simp; done) | (simp; omega)) (.slice s2 m.data.length c2))
  have hne2 : ∀ g, (Value.slice s2 m.data.length c2).ownBlock = some g → g ≠ w.heap.size + 1 + 1 := fun g hg => by have := (HOwn4.out.lt g hg).1; omega
  have HOwn5 := hid (own_far HOwn3.out (p := ⟨w.heap.size + 1 + 1, 3, none⟩) HNe1.out (.slice s2 m.data.length c2))
  have HOwn6 := hid (own_far HOwn4.out (p := ⟨w.heap.size + 1 + 1, 3, none⟩) hne2 (.slice s2 m.data.length c2))
  have HNe2 := hid hne2
  clear hne2
  refine (toNameS_c m.names vn _ (HN.out.on HB4.out) hln).mono ?_
  rintro e w3 ⟨v3, rfl, hown3, hb3⟩
  obtain ⟨s3, c3, rfl⟩ := own_slice hown3
  have hz3 := hb3.size
  simp only [World.size_setCell] at hz3
  have HR5 := hid (HR4.out.on hb3)
  have HO5 := hid (HO4.out.on hb3)
  have HB5 := hid (HB4.out.trans (hb3.mono HB4.out.size))
  have HOwn7 := hid (own_on HOwn5.out hb3)
  have HOwn8 := hid (own_on HOwn6.out hb3)
  simp only [World.size_setCell] at hown3
  have HOwn9 := hid hown3
  clear hown3 hb3
  have o0 := HO5.out.cell 0
  have o1 := HO5.out.cell 1
  have o2 := HO5.out.cell 2
  have o3 := HO5.out.cell 3
  have o4 := HO5.out.cell 4
  have r0 := HR5.out.cell 0
  have r1 := HR5.out.cell 1
  have r2 := HR5.out.cell 2
  have r3 := HR5.out.cell 3
  have r4 := HR5.out.cell 4
  simp at o0 o1 o2 o3 o4 r0 r1 r2 r3 r4
  have hfo := HO5.out.free
  have hfr := HR5.out.free
  go_wp2_with fail
  clear o0 o1 o2 o3 o4 r0 r1 r2 r3 r4 hfo hfr
  have hr5 := HR5.out.far (p := ⟨w.heap.size + 1 + 1, 4, none⟩) (by first | (simp; done) | (simp; omega)) (.slice s3 m.names.length c3)
  have HB6 := hid (HB5.out.setCell (p := ⟨w.heap.size + 1 + 1, 4, none⟩) (by first | (simp; done) | (simp; omega)) (.slice s3 m.names.length c3))
  have hne3 : ∀ g, (Value.slice s3 m.names.length c3).ownBlock = some g → g ≠ w.heap.size + 1 + 1 := fun g hg => by have := (HOwn9.out.lt g hg).1; omega
  have HR6 := hid (five_row hr5 (.slice s1 m.code.length c1) m.entry m.room (.slice s2 m.data.length c2) (.slice s3 m.names.length c3))
  refine bodyPost_ret (v := .agg #[.slice s1 m.code.length c1, .int .i64 m.entry, .int .i64 m.room, .slice s2 m.data.length c2, .slice s3 m.names.length c3])
    (results_cell_row Tryd.results13 _ _ (w.heap.size + 1) 40 #[.slice s1 m.code.length c1, .int .i64 m.entry, .int .i64 m.room, .slice s2 m.data.length c2, .slice s3 m.names.length c3] (0, 0) _ rfl HR6.out Tryd.underlying40 rfl size_img) rfl ?_
  refine ⟨_, _, _, rfl, ⟨?_, ?_, ?_, fun g h1 h2 => ?_⟩, five_bel HB6.out (by omega) _ _ _ _ _⟩
  · exact own_mono (own_far5 (own_far HOwn7.out (p := ⟨w.heap.size + 1 + 1, 4, none⟩) HNe1.out _) (fun g hg => by have := (HOwn1.out.lt g hg).1; omega) _ _ _ _ _) (by omega)
  · exact own_mono (own_far5 (own_far HOwn8.out (p := ⟨w.heap.size + 1 + 1, 4, none⟩) HNe2.out _) (fun g hg => by have := (HOwn4.out.lt g hg).1; omega) _ _ _ _ _) (by omega)
  · exact own_mono (own_far5 (own_far HOwn9.out (p := ⟨w.heap.size + 1 + 1, 4, none⟩) hne3 _) (fun g hg => by have := (HOwn9.out.lt g hg).1; omega) _ _ _ _ _) (by omega)
  · have := (HOwn1.out.lt g h1).2
    have := (HOwn4.out.lt g h2).1
    omega
end Go.Proofs.YtadcepgeodcacaaDoor.Im
