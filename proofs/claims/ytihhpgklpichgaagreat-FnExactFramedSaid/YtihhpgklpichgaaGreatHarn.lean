/- The laws' own helpers over numbers, names and images: what they return (toIntS, toNameS, toImage, szImage, eqImage) · The laws' own helpers over names and images: toName, toNameS, toImage · The laws' own helpers over names and images: szImage (how great an argument is), eqImage · The laws' own helpers over names and images: eqNameS, eqImage · Arguments opened: an image that came in reads as an image; a list of numbers as numbers. -/
import Derived.Test.YtihhpgklpichgaaGreatImg
import Derived.Test.YtihhpgklpichgaaGreatC2f
import Derived.Deep.RegionWith
import Derived.Deep.DeepCutAuto
import Derived.RegionTactic
import Derived.BigRegion
import Derived.ChangeShapes
import Derived.ChangeSlices
import Derived.ChangeArms
import Derived.WideShapes
import Derived.Deep.Fields
import Derived.Deep.Slices
import Derived.DataReads
set_option linter.unusedSimpArgs false
set_option linter.unusedVariables false
namespace Go.Proofs.YtihhpgklpichgaaGreat.Im
open Go.RowKit Pl Ft Mm In C2

/-- An address that holds a cell has no spot: what an argument is reads as what a slice is. -/
theorem cell_spot {w : World} {a : Addr} {u : Value} (h : w.cell? a = some u) : a = ⟨a.block, a.off, none⟩ := by
  unfold World.cell? at h
  split at h
  · split at h
    · cases h
    · rename_i hn
      cases hs : a.spot with
      | none => rw [← hs]
      | some s => rw [hs] at hn; simp at hn
  · cases h
theorem cell_lt {w : World} {a : Addr} {u : Value} (h : w.cell? a = some u) : a.block < w.heap.size := by
  unfold World.cell? at h
  split at h
  · rename_i hs
    exact (Array.getElem?_eq_some_iff.1 hs).1
  · cases h
theorem add_none (g o n : Nat) : (⟨g, o, none⟩ : Addr).add n = ⟨g, o + n, none⟩ := by unfold Addr.add; split <;> simp_all
theorem rd_of_cells {w : World} {ad : Addr} {xs : List Int} {cap : Nat} (h : ∀ j, j < xs.length → w.cell? (ad.add j) = some (.int .i64 (xs.getD j 0))) : Rd w (.slice (some ad) xs.length cap) xs := by
  refine ⟨some ad, cap, rfl, ?_⟩
  by_cases h0 : xs = []
  · exact .inl h0
  · have hp : 0 < xs.length := List.length_pos_iff.2 h0
    have hc := h 0 hp
    have e : ad.add 0 = ad := rfl
    rw [e] at hc
    have hs := cell_spot hc
    refine .inr ⟨ad.block, ad.off, by rw [← hs], cell_lt hc, fun j hj => ?_⟩
    rw [← add_none, ← hs]
    exact h j hj
theorem nrd_of_cells {w : World} {ad : Addr} {l : List Nm} {cap : Nat} (h : ∀ j, j < l.length → w.cell? (ad.add (j * 2)) = some (.string (l.getD j .none).text) ∧ w.cell? (ad.add (j * 2 + 1)) = some (.int .i64 (l.getD j .none).at_)) : NRd w (.slice (some ad) l.length cap) l := by
  refine ⟨some ad, cap, rfl, ?_⟩
  by_cases h0 : l = []
  · exact .inl h0
  · have hp : 0 < l.length := List.length_pos_iff.2 h0
    have hc := (h 0 hp).1
    rw [Nat.zero_mul] at hc
    have e : ad.add 0 = ad := rfl
    rw [e] at hc
    have hs := cell_spot hc
    refine .inr ⟨ad.block, ad.off, by rw [← hs], cell_lt hc, fun j hj => ?_⟩
    rw [Nat.add_assoc, ← add_none, ← add_none, ← hs]
    exact h j hj
theorem copy_step (xs : List Int) (Z : List Value) (k : Nat) (h : k < xs.length) (hz : Z.length = xs.length) : (ints (xs.take k) ++ Z.drop k).set k (.int .i64 (xs.getD k 0)) = ints (xs.take (k + 1)) ++ Z.drop (k + 1) := by
  have e : Z.drop k = Z[k]'(by omega) :: Z.drop (k + 1) := List.drop_eq_getElem_cons (by omega)
  have e2 : xs.take (k + 1) = xs.take k ++ [xs.getD k 0] := by rw [List.take_succ_eq_append_getElem h]; simp [h]
  have hl : (ints (xs.take k)).length = k := by simp [ints]; omega
  rw [e, e2, List.set_append_right _ _ (by omega), hl]
  simp only [ints, List.map_append, List.map_cons, List.map_nil, Nat.sub_self, List.set_cons_zero, List.append_assoc, List.singleton_append]
set_option maxHeartbeats 1000000 in
theorem toIntS_c (xs : List Int) (v : Value) (w : World) (ha : Rd w v xs) (hl : xs.length ≤ 1048576) :
    Calls Tryz.prog 47 #[v] w fun e w' => ∃ v', e = .returned v' ∧ w'.ownsRow w.heap.size 3 1 v' xs.length (ints xs) ∧ Below w.heap.size w w' := by
  obtain ⟨a, cap, rfl, ha⟩ := ha
  have HA := hid ha
  clear ha
  obtain ⟨i0, hi, hz0, hz1, hz2⟩ := info_parts info_int
  have H0 := hid hz0
  have H1 := hid hz1
  have H2 := hid hz2
  have HI := hid hi
  clear hz0 hz1 hz2 hi
  go_enter Tryz.func47, Tryz.ntmps47
  go_wp2_with (refine wpList_make_full _ rfl _ _ 22 rfl w.heap.size 3 i0 (.int .i64 0) 1 Tryz.underlying22 HI.out H0.out H1.out .i64 .i64 _ _ xs.length rfl rfl rfl rfl (by rw [H2.out]; omega) (by simp only [maxLen]; omega) (Nat.le_refl _) ?_; intro w1 hown1 hg1)
  obtain ⟨Z, hZ⟩ : ∃ Z, (madeCells (Value.cells (.int .i64 0)) (xs.length * 1)).toList = Z := ⟨_, rfl⟩
  rw [hZ] at hown1
  have hZl : Z.length = xs.length := by have := hown1.1; omega
  have HZ := hid hZl
  have HO := hid hown1
  have HB1 := hid ((Below.refl w.heap.size w).grown hg1 (Nat.le_refl _) (by simp))
  clear hown1 hg1 hZ hZl
  go_loopw [4] (fun c wr => ∃ k : Nat, c = .int .i64 k ∧ k ≤ xs.length ∧ wr.ownsRow w.heap.size 3 1 (.slice (some ⟨w.heap.size, 0, none⟩) xs.length xs.length) xs.length (ints (xs.take k) ++ Z.drop k) ∧ Below w.heap.size w wr) (fun c _ => xs.length - (intOf c).toNat)
  case atStart => exact ⟨0, rfl, by omega, by simpa [ints] using HO.out, HB1.out⟩
  case round =>
    obtain ⟨k, rfl, hk, hown, hbel⟩ := hrel
    by_cases hlt : k < xs.length
    · rcases HA.out with h | ⟨g, o, rfl, hg, hc⟩
      · subst h; simp at hlt
      have q1 : wr.cell? ⟨g, o + k, none⟩ = some (.int .i64 (xs.getD k 0)) := (hbel.cell (p := ⟨g, o + k, none⟩) hg).trans (hc k hlt)
      have hcell := hown.cellAt k (by omega)
      have hsome : ∃ u, (ints (xs.take k) ++ Z.drop k)[k]? = some u := by
        have hlen : k < (ints (xs.take k) ++ Z.drop k).length := by have := HZ.out; simp [ints]; omega
        exact ⟨_, List.getElem?_eq_getElem hlen⟩
      obtain ⟨u, hu⟩ := hsome
      rw [hu] at hcell
      have hfz := hown.frozenAt k
      have hst := hown.stored k (.int .i64 (xs.getD k 0))
      rw [copy_step xs Z k hlt HZ.out] at hst
      have HS := hid hst
      have HB2 := hid (hbel.setCell (p := ⟨w.heap.size, k, none⟩) (Nat.le_refl _) (.int .i64 (xs.getD k 0)))
      obtain ⟨x, hx⟩ : ∃ x, xs.getD k 0 = x := ⟨_, rfl⟩
      rw [hx] at q1 HS HB2
      clear hst hown hbel hu hc hx
      go_wp2_with fail
      go_roundw
      case rel => exact ⟨k + 1, by go_num, by omega, HS.out.1, HB2.out⟩
      case measure => simp [intOf]; omega
    · obtain rfl : k = xs.length := by omega
      have HO2 := hid hown
      have HB2 := hid hbel
      clear hown hbel
      go_wp2_with fail
      go_ret
      exact ⟨_, rfl, by have := HO2.out; rwa [List.take_length, List.drop_of_length_le (by rw [HZ.out]; exact Nat.le_refl _), List.append_nil] at this, HB2.out⟩
end Go.Proofs.YtihhpgklpichgaaGreat.Im
namespace Go.Proofs.YtihhpgklpichgaaGreat.Im
open Go.RowKit Pl Ft Mm In C2

theorem toName_c (n : Nm) (w : World) : Calls Tryz.prog 89 #[.agg #[.string n.text, .int .i64 n.at_]] w fun e w' => e = .returned (.agg #[.string n.text, .int .i64 n.at_]) ∧ Below w.heap.size w w' := by
  go_enter Tryz.func89, Tryz.ntmps89
  go_wp2
  refine bodyPost_ret (v := .agg #[.string n.text, .int .i64 n.at_]) (by simp [results, Tryz.results89, go_sem]) rfl ⟨rfl, ?_⟩
  repeat' first | exact Below.refl _ _ | (refine Below.setCell ?_ (by simp; try omega) _) | (refine Below.alloc ?_ (by simp; try omega) _)
theorem info_name : (Tryz.prog.info? 105).map (fun i => (i.zero, i.size, i.bytes)) = some (some (.agg #[.string ⟨#[]⟩, .int .i64 0]), 2, 24) := by kernel_rfl
theorem nm_step (l : List Nm) (Z : List Value) (k : Nat) (h : k < l.length) (hz : Z.length = l.length * 2) :
    ((nmCells (l.take k) ++ Z.drop (k * 2)).set (k * 2) (.string (l.getD k .none).text)).set (k * 2 + 1) (.int .i64 (l.getD k .none).at_) = nmCells (l.take (k + 1)) ++ Z.drop ((k + 1) * 2) := by
  have e0 : Z.drop (k * 2) = Z[k * 2]'(by omega) :: Z.drop (k * 2 + 1) := List.drop_eq_getElem_cons (by omega)
  have e1 : Z.drop (k * 2 + 1) = Z[k * 2 + 1]'(by omega) :: Z.drop (k * 2 + 1 + 1) := List.drop_eq_getElem_cons (by omega)
  have e2 : l.take (k + 1) = l.take k ++ [l.getD k .none] := by rw [List.take_succ_eq_append_getElem h]; simp [h]
  have hl : (nmCells (l.take k)).length = k * 2 := by rw [nmCells_len, List.length_take]; omega
  have e3 : nmCells (l.take k ++ [l.getD k .none]) = nmCells (l.take k) ++ [.string (l.getD k .none).text, .int .i64 (l.getD k .none).at_] := by
    simp only [nmCells, List.flatMap_append, List.flatMap_cons, List.flatMap_nil, List.append_nil, Nm.cells]
  have e4 : (k + 1) * 2 = k * 2 + 1 + 1 := by omega
  rw [e0, e1, e2, e3, e4, List.set_append_right _ _ (by omega), hl, Nat.sub_self, List.set_cons_zero, List.set_append_right _ _ (by omega), hl, Nat.add_sub_cancel_left, List.set_cons_succ, List.set_cons_zero, List.append_assoc]
  rfl
set_option maxHeartbeats 1000000 in
theorem toNameS_c (l : List Nm) (v : Value) (w : World) (ha : NRd w v l) (hl : l.length ≤ 1048576) :
    Calls Tryz.prog 48 #[v] w fun e w' => ∃ v', e = .returned v' ∧ w'.ownsRow w.heap.size 105 2 v' l.length (nmCells l) ∧ Below w.heap.size w w' := by
  obtain ⟨a, cap, rfl, ha⟩ := ha
  have HA := hid ha
  clear ha
  obtain ⟨i0, hi, hz0, hz1, hz2⟩ := info_parts info_name
  have H0 := hid hz0
  have H1 := hid hz1
  have H2 := hid hz2
  have HI := hid hi
  clear hz0 hz1 hz2 hi
  go_enter Tryz.func48, Tryz.ntmps48
  go_wp2_with (refine wpList_make_full _ rfl _ _ 28 rfl w.heap.size 105 i0 (.agg #[.string ⟨#[]⟩, .int .i64 0]) 2 Tryz.underlying28 HI.out H0.out H1.out .i64 .i64 _ _ l.length rfl rfl rfl rfl (by rw [H2.out]; omega) (by simp only [maxLen]; omega) (Nat.le_refl _) ?_; intro w1 hown1 hg1)
  obtain ⟨Z, hZ⟩ : ∃ Z, (madeCells (Value.cells (.agg #[.string ⟨#[]⟩, .int .i64 0])) (l.length * 2)).toList = Z := ⟨_, rfl⟩
  rw [hZ] at hown1
  have HZ := hid hown1.1
  have HO := hid hown1
  have HB1 := hid ((Below.refl w.heap.size w).grown hg1 (Nat.le_refl _) (by simp))
  clear hown1 hg1 hZ
  go_loopw [4] (fun c wr => ∃ k : Nat, c = .int .i64 k ∧ k ≤ l.length ∧ wr.ownsRow w.heap.size 105 2 (.slice (some ⟨w.heap.size, 0, none⟩) l.length l.length) l.length (nmCells (l.take k) ++ Z.drop (k * 2)) ∧ Below w.heap.size w wr) (fun c _ => l.length - (intOf c).toNat)
  case atStart => exact ⟨0, rfl, by omega, by simpa [nmCells] using HO.out, HB1.out⟩
  case round =>
    obtain ⟨k, rfl, hk, hown, hbel⟩ := hrel
    by_cases hlt : k < l.length
    · rcases HA.out with h | ⟨g, o, rfl, hg, hc⟩
      · subst h; simp at hlt
      obtain ⟨c0, c1⟩ := hc k hlt
      have q1 : wr.cell? ⟨g, o + k * 2, none⟩ = some (.string (l.getD k .none).text) := (hbel.cell (p := ⟨g, o + k * 2, none⟩) hg).trans c0
      have q2 : wr.cell? ⟨g, o + k * 2 + 1, none⟩ = some (.int .i64 (l.getD k .none).at_) := (hbel.cell (p := ⟨g, o + k * 2 + 1, none⟩) hg).trans c1
      obtain ⟨t, ht⟩ : ∃ t, (l.getD k .none).text = t := ⟨_, rfl⟩
      obtain ⟨x, hx⟩ : ∃ t, (l.getD k .none).at_ = t := ⟨_, rfl⟩
      rw [ht] at q1
      rw [hx] at q2
      have HT := hid ht
      have HX := hid hx
      have HOw := hid hown
      have HBe := hid hbel
      clear hown hbel hc c0 c1 ht hx
      go_wp2_with fail
      refine (toName_c ⟨t, x⟩ _).mono ?_
      rintro e w2 ⟨rfl, hb2⟩
      have HO2 := hid (own_on HOw.out hb2)
      have HB2 := hid (HBe.out.trans (hb2.mono HBe.out.size))
      have hz2 := HO2.out.lt w.heap.size rfl
      clear hb2
      have hc0 := HO2.out.cellAt (k * 2) (by omega)
      have hc1 := HO2.out.cellAt (k * 2 + 1) (by omega)
      have hlen : k * 2 + 1 < (nmCells (l.take k) ++ Z.drop (k * 2)).length := by have := HZ.out; rw [List.length_append, nmCells_len, List.length_take, List.length_drop]; omega
      rw [List.getElem?_eq_getElem (by omega)] at hc0
      rw [List.getElem?_eq_getElem hlen] at hc1
      have hf0 := HO2.out.frozenAt (k * 2)
      have hf1 := HO2.out.frozenAt (k * 2 + 1)
      have hst := ((HO2.out.stored (k * 2) (.string t)).1.stored (k * 2 + 1) (.int .i64 x)).1
      have hstep := nm_step l Z k hlt HZ.out
      rw [HT.out, HX.out] at hstep
      rw [hstep] at hst
      have HS := hid hst
      have HB3 := hid ((HB2.out.setCell (p := ⟨w.heap.size, k * 2, none⟩) (Nat.le_refl _) (.string t)).setCell (p := ⟨w.heap.size, k * 2 + 1, none⟩) (Nat.le_refl _) (.int .i64 x))
      obtain ⟨u0, hu0⟩ : ∃ u, (nmCells (l.take k) ++ Z.drop (k * 2))[k * 2]'(by omega) = u := ⟨_, rfl⟩
      obtain ⟨u1, hu1⟩ : ∃ u, (nmCells (l.take k) ++ Z.drop (k * 2))[k * 2 + 1]'hlen = u := ⟨_, rfl⟩
      rw [hu0] at hc0
      rw [hu1] at hc1
      clear hst hstep hlen hu0 hu1 q1 q2
      go_wp2_with fail
      go_roundw
      case rel => exact ⟨k + 1, by go_num, by omega, HS.out, HB3.out⟩
      case measure => simp [intOf]; omega
    · obtain rfl : k = l.length := by omega
      have HO2 := hid hown
      have HB2 := hid hbel
      clear hown hbel
      go_wp2_with fail
      go_ret
      exact ⟨_, rfl, by have := HO2.out; rwa [List.take_length, List.drop_of_length_le (by rw [HZ.out]; exact Nat.le_refl _), List.append_nil] at this, HB2.out⟩
/-- An image in memory of one's own. -/
structure IOwn (w : World) (B : Nat) (vc vd vn : Value) (m : Img) : Prop where
  c : w.ownsRow B 3 1 vc m.code.length (ints m.code)
  d : w.ownsRow B 3 1 vd m.data.length (ints m.data)
  n : w.ownsRow B 105 2 vn m.names.length (nmCells m.names)
  ne : ∀ g, vc.ownBlock = some g → vd.ownBlock ≠ some g
theorem IOwn.cells {w : World} {B : Nat} {vc vd vn : Value} {m : Img} (h : IOwn w B vc vd vn m) : ICells w vc vd vn m := ⟨.of_own h.c, .of_own h.d, .of_own h.n, own_cap h.n⟩
theorem IOwn.on {w w' : World} {B : Nat} {vc vd vn : Value} {m : Img} (h : IOwn w B vc vd vn m) (hb : Below w.heap.size w w') : IOwn w' B vc vd vn m := ⟨own_on h.c hb, own_on h.d hb, own_on h.n hb, h.ne⟩
def ImgPost (m : Img) (w : World) (e : Ending) (w' : World) : Prop := ∃ vc vd vn, e = .returned (imgVal vc vd vn m) ∧ IOwn w' w.heap.size vc vd vn m ∧ Below w.heap.size w w'
theorem own_far {w : World} {base : Nat} {e : TypeId} {size : Nat} {v : Value} {n : Nat} {xs : List Value} (h : w.ownsRow base e size v n xs) {p : Addr} (hp : ∀ g, v.ownBlock = some g → g ≠ p.block) (u : Value) : (w.setCell p u).ownsRow base e size v n xs := by
  refine ⟨h.1, ?_⟩
  rcases h.2 with h0 | ⟨g, cap, cur, rfl, hg, hr, hrest⟩
  · exact .inl h0
  · exact .inr ⟨g, cap, cur, rfl, hg, (Below.heap_setCell w p u g (hp g rfl)).trans hr, hrest⟩
theorem size_img : (Tryz.prog.info? 30).map (·.size) = some 5 := by kernel_rfl
theorem rd_below {B : Nat} {w w' : World} {v : Value} {xs : List Int} (h : Rd w v xs) (hb : Below w.heap.size w w') : Rd w' v xs := h.on hb
theorem five_row {w : World} {g : Nat} {t : TypeId} {x0 x1 x2 x3 x4 : Value} (h : Row w g t #[x0, x1, x2, x3, x4]) (vc : Value) (e r : Int) (vd vn : Value) :
    Row (((((w.setCell ⟨g, 0, none⟩ vc).setCell ⟨g, 1, none⟩ (.int .i64 e)).setCell ⟨g, 2, none⟩ (.int .i64 r)).setCell ⟨g, 3, none⟩ vd).setCell ⟨g, 4, none⟩ vn) g t #[vc, .int .i64 e, .int .i64 r, vd, vn] := ((((h.set 0 _).set 1 _).set 2 _).set 3 _).set 4 _
theorem five_bel {B : Nat} {w w' : World} {g : Nat} (h : Below B w w') (hg : B ≤ g) (y0 y1 y2 y3 y4 : Value) : Below B w (((((w'.setCell ⟨g, 0, none⟩ y0).setCell ⟨g, 1, none⟩ y1).setCell ⟨g, 2, none⟩ y2).setCell ⟨g, 3, none⟩ y3).setCell ⟨g, 4, none⟩ y4) := by
  have h0 := h.setCell (p := ⟨g, 0, none⟩) hg y0
  have h1 := h0.setCell (p := ⟨g, 1, none⟩) hg y1
  have h2 := h1.setCell (p := ⟨g, 2, none⟩) hg y2
  have h3 := h2.setCell (p := ⟨g, 3, none⟩) hg y3
  exact h3.setCell (p := ⟨g, 4, none⟩) hg y4
theorem own_far5 {w : World} {base : Nat} {e : TypeId} {size : Nat} {v : Value} {n : Nat} {xs : List Value} (h : w.ownsRow base e size v n xs) {g : Nat} (hg : ∀ b, v.ownBlock = some b → b ≠ g) (y0 y1 y2 y3 y4 : Value) :
    (((((w.setCell ⟨g, 0, none⟩ y0).setCell ⟨g, 1, none⟩ y1).setCell ⟨g, 2, none⟩ y2).setCell ⟨g, 3, none⟩ y3).setCell ⟨g, 4, none⟩ y4).ownsRow base e size v n xs :=
  own_far (own_far (own_far (own_far (own_far h (p := ⟨g, 0, none⟩) hg y0) (p := ⟨g, 1, none⟩) hg y1) (p := ⟨g, 2, none⟩) hg y2) (p := ⟨g, 3, none⟩) hg y3) (p := ⟨g, 4, none⟩) hg y4
set_option maxHeartbeats 1000000 in
theorem toImage_c (m : Img) (vc vd vn : Value) (w : World) (hc : Rd w vc m.code) (hd : Rd w vd m.data) (hn : NRd w vn m.names) (hs : Sm m) :
    Calls Tryz.prog 15 #[imgVal vc vd vn m] w (ImgPost m w) := by
  have HC := hid hc
  have HD := hid hd
  have HN := hid hn
  have hlc := hs.c
  have hld := hs.d
  have hln := hs.n
  clear hc hd hn hs
  unfold imgVal
  go_enter Tryz.func15, Tryz.ntmps15
  go_wp2_with fail
  have ha1 := (Below.refl w.heap.size w).alloc (Nat.le_refl _) (.cells #[vc, .int .i64 m.entry, .int .i64 m.room, vd, vn] 25)
  have ha2 := ha1.alloc ha1.size (.cells #[.slice none 0 0, .int .i64 0, .int .i64 0, .slice none 0 0, .slice none 0 0] 30)
  have HB0 := hid (ha2.alloc ha2.size (.cells #[.slice none 0 0, .int .i64 0, .int .i64 0, .slice none 0 0, .slice none 0 0] 30))
  clear ha1 ha2
  have HX0 := hid (((Row.new w 25 #[vc, .int .i64 m.entry, .int .i64 m.room, vd, vn]).alloc (.cells #[.slice none 0 0, .int .i64 0, .int .i64 0, .slice none 0 0, .slice none 0 0] 30)).alloc (.cells #[.slice none 0 0, .int .i64 0, .int .i64 0, .slice none 0 0, .slice none 0 0] 30))
  have HR0 := hid (((Row.new (w.alloc (.cells #[vc, .int .i64 m.entry, .int .i64 m.room, vd, vn] 25)) 30 #[.slice none 0 0, .int .i64 0, .int .i64 0, .slice none 0 0, .slice none 0 0])).alloc (.cells #[.slice none 0 0, .int .i64 0, .int .i64 0, .slice none 0 0, .slice none 0 0] 30))
  have HO0 := hid (Row.new ((w.alloc (.cells #[vc, .int .i64 m.entry, .int .i64 m.room, vd, vn] 25)).alloc (.cells #[.slice none 0 0, .int .i64 0, .int .i64 0, .slice none 0 0, .slice none 0 0] 30)) 30 #[.slice none 0 0, .int .i64 0, .int .i64 0, .slice none 0 0, .slice none 0 0])
  simp only [World.size_alloc] at HR0 HO0
  refine (toIntS_c m.code vc _ (HC.out.on HB0.out) hlc).mono ?_
  rintro e w1 ⟨v1, rfl, hown1, hb1⟩
  obtain ⟨s1, c1, rfl⟩ := own_slice hown1
  have hz1 := hb1.size
  simp only [World.size_alloc] at hz1
  have HX1 := hid (HX0.out.on hb1)
  have HR1 := hid (HR0.out.on hb1)
  have HO1 := hid (HO0.out.on hb1)
  have HB1 := hid (HB0.out.trans (hb1.mono HB0.out.size))
  simp only [World.size_alloc] at hown1
  have HOwn1 := hid hown1
  clear hown1 hb1
  have b0 := HX1.out.cell 0
  have b1 := HX1.out.cell 1
  have b2 := HX1.out.cell 2
  have b3 := HX1.out.cell 3
  have b4 := HX1.out.cell 4
  have o0 := HO1.out.cell 0
  have o1 := HO1.out.cell 1
  have o2 := HO1.out.cell 2
  simp at b0 b1 b2 b3 b4 o0 o1 o2
  have hfo := HO1.out.free
  go_wp2_with fail
  clear b0 b1 b2 b3 b4 o0 o1 o2 hfo
  have HX2 := hid (((HX1.out.far (p := ⟨w.heap.size + 1 + 1, 0, none⟩) (by first | (simp; done) | (simp; omega)) (.slice s1 m.code.length c1)).far (p := ⟨w.heap.size + 1 + 1, 1, none⟩) (by first | (simp; done) | (simp; omega)) (.int .i64 m.entry)).far (p := ⟨w.heap.size + 1 + 1, 2, none⟩) (by first | (simp; done) | (simp; omega)) (.int .i64 m.room))
  have HR2 := hid (((HR1.out.far (p := ⟨w.heap.size + 1 + 1, 0, none⟩) (by first | (simp; done) | (simp; omega)) (.slice s1 m.code.length c1)).far (p := ⟨w.heap.size + 1 + 1, 1, none⟩) (by first | (simp; done) | (simp; omega)) (.int .i64 m.entry)).far (p := ⟨w.heap.size + 1 + 1, 2, none⟩) (by first | (simp; done) | (simp; omega)) (.int .i64 m.room))
  have HO2 := hid (((HO1.out.set 0 (.slice s1 m.code.length c1)).set 1 (.int .i64 m.entry)).set 2 (.int .i64 m.room))
  have HB2 := hid (((HB1.out.setCell (p := ⟨w.heap.size + 1 + 1, 0, none⟩) (by first | (simp; done) | (simp; omega)) (.slice s1 m.code.length c1)).setCell (p := ⟨w.heap.size + 1 + 1, 1, none⟩) (by first | (simp; done) | (simp; omega)) (.int .i64 m.entry)).setCell (p := ⟨w.heap.size + 1 + 1, 2, none⟩) (by first | (simp; done) | (simp; omega)) (.int .i64 m.room))
  have hne1 : ∀ g, (Value.slice s1 m.code.length c1).ownBlock = some g → g ≠ w.heap.size + 1 + 1 := fun g hg => by have := (HOwn1.out.lt g hg).1; omega
  have HOwn2 := hid (own_far (own_far (own_far HOwn1.out (p := ⟨w.heap.size + 1 + 1, 0, none⟩) hne1 (.slice s1 m.code.length c1)) (p := ⟨w.heap.size + 1 + 1, 1, none⟩) hne1 (.int .i64 m.entry)) (p := ⟨w.heap.size + 1 + 1, 2, none⟩) hne1 (.int .i64 m.room))
  have HNe1 := hid hne1
  clear hne1
  refine (toIntS_c m.data vd _ (HD.out.on HB2.out) hld).mono ?_
  rintro e w2 ⟨v2, rfl, hown2, hb2⟩
  obtain ⟨s2, c2, rfl⟩ := own_slice hown2
  have hz2 := hb2.size
  simp only [World.size_setCell] at hz2
  have HX3 := hid (HX2.out.on hb2)
  have HR3 := hid (HR2.out.on hb2)
  have HO3 := hid (HO2.out.on hb2)
  have HB3 := hid (HB2.out.trans (hb2.mono HB2.out.size))
  have HOwn3 := hid (own_on HOwn2.out hb2)
  simp only [World.size_setCell] at hown2
  have HOwn4 := hid hown2
  clear hown2 hb2
  have b4 := HX3.out.cell 4
  have o3 := HO3.out.cell 3
  simp at b4 o3
  have hfo := HO3.out.free
  go_wp2_with fail
  clear b4 o3 hfo
  have HR4 := hid (HR3.out.far (p := ⟨w.heap.size + 1 + 1, 3, none⟩) (by first | (simp; done) | (simp; omega)) (.slice s2 m.data.length c2))
  have HO4 := hid (HO3.out.set 3 (.slice s2 m.data.length c2))
  have HB4 := hid (HB3.out.setCell (p := ⟨w.heap.size + 1 + 1, 3, none⟩) (by first | (simp; done) | (simp; omega)) (.slice s2 m.data.length c2))
  have hne2 : ∀ g, (Value.slice s2 m.data.length c2).ownBlock = some g → g ≠ w.heap.size + 1 + 1 := fun g hg => by have := (HOwn4.out.lt g hg).1; omega
  have HOwn5 := hid (own_far HOwn3.out (p := ⟨w.heap.size + 1 + 1, 3, none⟩) HNe1.out (.slice s2 m.data.length c2))
  have HOwn6 := hid (own_far HOwn4.out (p := ⟨w.heap.size + 1 + 1, 3, none⟩) hne2 (.slice s2 m.data.length c2))
  have HNe2 := hid hne2
  clear hne2
  refine (toNameS_c m.names vn _ (HN.out.on HB4.out) hln).mono ?_
  rintro e w3 ⟨v3, rfl, hown3, hb3⟩
  obtain ⟨s3, c3, rfl⟩ := own_slice hown3
  have hz3 := hb3.size
  simp only [World.size_setCell] at hz3
  have HR5 := hid (HR4.out.on hb3)
  have HO5 := hid (HO4.out.on hb3)
  have HB5 := hid (HB4.out.trans (hb3.mono HB4.out.size))
  have HOwn7 := hid (own_on HOwn5.out hb3)
  have HOwn8 := hid (own_on HOwn6.out hb3)
  simp only [World.size_setCell] at hown3
  have HOwn9 := hid hown3
  clear hown3 hb3
  have o0 := HO5.out.cell 0
  have o1 := HO5.out.cell 1
  have o2 := HO5.out.cell 2
  have o3 := HO5.out.cell 3
  have o4 := HO5.out.cell 4
  have r0 := HR5.out.cell 0
  have r1 := HR5.out.cell 1
  have r2 := HR5.out.cell 2
  have r3 := HR5.out.cell 3
  have r4 := HR5.out.cell 4
  simp at o0 o1 o2 o3 o4 r0 r1 r2 r3 r4
  have hfo := HO5.out.free
  have hfr := HR5.out.free
  go_wp2_with fail
  clear o0 o1 o2 o3 o4 r0 r1 r2 r3 r4 hfo hfr
  have hr5 := HR5.out.far (p := ⟨w.heap.size + 1 + 1, 4, none⟩) (by first | (simp; done) | (simp; omega)) (.slice s3 m.names.length c3)
  have HB6 := hid (HB5.out.setCell (p := ⟨w.heap.size + 1 + 1, 4, none⟩) (by first | (simp; done) | (simp; omega)) (.slice s3 m.names.length c3))
  have hne3 : ∀ g, (Value.slice s3 m.names.length c3).ownBlock = some g → g ≠ w.heap.size + 1 + 1 := fun g hg => by have := (HOwn9.out.lt g hg).1; omega
  have HR6 := hid (five_row hr5 (.slice s1 m.code.length c1) m.entry m.room (.slice s2 m.data.length c2) (.slice s3 m.names.length c3))
  refine bodyPost_ret (v := .agg #[.slice s1 m.code.length c1, .int .i64 m.entry, .int .i64 m.room, .slice s2 m.data.length c2, .slice s3 m.names.length c3])
    (results_cell_row Tryz.results15 _ _ (w.heap.size + 1) 30 #[.slice s1 m.code.length c1, .int .i64 m.entry, .int .i64 m.room, .slice s2 m.data.length c2, .slice s3 m.names.length c3] (0, 0) _ rfl HR6.out Tryz.underlying30 rfl size_img) rfl ?_
  refine ⟨_, _, _, rfl, ⟨?_, ?_, ?_, fun g h1 h2 => ?_⟩, five_bel HB6.out (by omega) _ _ _ _ _⟩
  · exact own_mono (own_far5 (own_far HOwn7.out (p := ⟨w.heap.size + 1 + 1, 4, none⟩) HNe1.out _) (fun g hg => by have := (HOwn1.out.lt g hg).1; omega) _ _ _ _ _) (by omega)
  · exact own_mono (own_far5 (own_far HOwn8.out (p := ⟨w.heap.size + 1 + 1, 4, none⟩) HNe2.out _) (fun g hg => by have := (HOwn4.out.lt g hg).1; omega) _ _ _ _ _) (by omega)
  · exact own_mono (own_far5 (own_far HOwn9.out (p := ⟨w.heap.size + 1 + 1, 4, none⟩) hne3 _) (fun g hg => by have := (HOwn9.out.lt g hg).1; omega) _ _ _ _ _) (by omega)
  · have := (HOwn1.out.lt g h1).2
    have := (HOwn4.out.lt g h2).1
    omega
end Go.Proofs.YtihhpgklpichgaaGreat.Im
namespace Go.Proofs.YtihhpgklpichgaaGreat.Im
open Go.RowKit Pl Ft Mm In C2

/-- What a size tells: less than what was left, or -1; where it isn't, all is small enough. -/
def SzPost (left : Int) (P : Prop) (w : World) (e : Ending) (w' : World) : Prop := ∃ x : Int, e = .returned (.int .i64 x) ∧ x ≤ left ∧ -1 ≤ x ∧ (0 ≤ x → P) ∧ Below w.heap.size w w'
theorem szIntS_c (a : Option Addr) (n c : Nat) (left : Int) (w : World) (h0 : 0 ≤ left) (h1 : left ≤ 1048576) (hn : n ≤ 9223372036854775807) :
    Calls Tryz.prog 43 #[.slice a n c, .int .i64 left] w (SzPost left ((n : Int) ≤ left) w) := by
  by_cases h : (n : Int) ≤ left
  · have HP := hid h
    go_enter Tryz.func43, Tryz.ntmps43
    go_wp2_with fail
    go_ret
    exact ⟨left - n, rfl, by omega, by omega, fun _ => HP.out, Below.refl _ _⟩
  · go_enter Tryz.func43, Tryz.ntmps43
    go_wp2_with fail
    go_ret
    exact ⟨-1, rfl, by omega, by omega, fun h => by omega, Below.refl _ _⟩
theorem szName_c (n : Nm) (left : Int) (w : World) (h0 : 0 ≤ left) (h1 : left ≤ 1048576) (hn : n.text.size ≤ 9223372036854775807) :
    Calls Tryz.prog 81 #[.agg #[.string n.text, .int .i64 n.at_], .int .i64 left] w (SzPost left ((n.text.size : Int) ≤ left) w) := by
  by_cases h : (n.text.size : Int) ≤ left
  · have HP := hid h
    go_enter Tryz.func81, Tryz.ntmps81
    go_wp2_with fail
    go_ret
    exact ⟨left - n.text.size, rfl, by omega, by omega, fun _ => HP.out, (Below.refl _ _).alloc (Nat.le_refl _) _⟩
  · go_enter Tryz.func81, Tryz.ntmps81
    go_wp2_with fail
    go_ret
    exact ⟨-1, rfl, by omega, by omega, fun h => by omega, (Below.refl _ _).alloc (Nat.le_refl _) _⟩
def NamesSm (l : List Nm) (k : Nat) : Prop := ∀ x ∈ l.take k, x.text.size ≤ 1048576
theorem NamesSm.succ {l : List Nm} {k : Nat} (h : NamesSm l k) (hk : k < l.length) (ht : (l.getD k .none).text.size ≤ 1048576) : NamesSm l (k + 1) := by
  have e : l.getD k .none = l[k] := by simp [hk]
  rw [e] at ht
  intro x hx
  rw [List.take_succ_eq_append_getElem hk, List.mem_append, List.mem_singleton] at hx
  rcases hx with hx | rfl
  · exact h x hx
  · exact ht
structure SzRel (l : List Nm) (left : Int) (w : World) (k : Nat) (x : Int) (wr : World) : Prop where
  le : k ≤ l.length
  x0 : 0 ≤ x
  x1 : x ≤ left
  sm : NamesSm l k
  bel : Below w.heap.size w wr
set_option maxHeartbeats 1000000 in
theorem szNameS_c (l : List Nm) (v : Value) (left : Int) (w : World) (hr : NRd w v l) (h0 : 0 ≤ left) (h1 : left ≤ 1048576) (hn : l.length ≤ 9223372036854775807) (ht : ∀ x ∈ l, x.text.size ≤ 9223372036854775807) :
    Calls Tryz.prog 44 #[v, .int .i64 left] w (SzPost left ((l.length : Int) ≤ left ∧ ∀ x ∈ l, x.text.size ≤ 1048576) w) := by
  obtain ⟨a, cap, rfl, ha⟩ := hr
  have HA := hid ha
  have HT := hid ht
  clear ha ht
  by_cases h : (l.length : Int) ≤ left
  · have HP := hid h
    go_enter Tryz.func44, Tryz.ntmps44
    go_wp2_with fail
    go_loopw [1, 5] (fun v c wr => ∃ (k : Nat) (x : Int), c = .int .i64 k ∧ v = .int .i64 x ∧ SzRel l left w k x wr) (fun _ c _ => l.length - (intOf c).toNat)
    case atStart => exact ⟨0, _, rfl, rfl, by omega, by omega, by omega, fun x hx => by simp at hx, Below.refl _ _⟩
    case round =>
      obtain ⟨k, y, rfl, rfl, hrel⟩ := hrel
      have hk := hrel.le
      have hy0 := hrel.x0
      have hy1 := hrel.x1
      have HR := hid hrel
      clear hrel
      by_cases hlt : k < l.length
      · rcases HA.out with h | ⟨g, o, rfl, hg, hc⟩
        · subst h; simp at hlt
        obtain ⟨c0, c1⟩ := hc k hlt
        have q1 : wr.cell? ⟨g, o + k * 2, none⟩ = some (.string (l.getD k .none).text) := (HR.out.bel.cell (p := ⟨g, o + k * 2, none⟩) hg).trans c0
        have q2 : wr.cell? ⟨g, o + k * 2 + 1, none⟩ = some (.int .i64 (l.getD k .none).at_) := (HR.out.bel.cell (p := ⟨g, o + k * 2 + 1, none⟩) hg).trans c1
        have hts := HT.out (l.getD k .none) (by simp [hlt])
        obtain ⟨t, hte⟩ : ∃ t, (l.getD k .none).text = t := ⟨_, rfl⟩
        obtain ⟨x, hx⟩ : ∃ t, (l.getD k .none).at_ = t := ⟨_, rfl⟩
        rw [hte] at q1 hts
        rw [hx] at q2
        have HTe := hid hte
        clear hc c0 c1 hte hx
        go_wp2_with fail
        refine (szName_c ⟨t, x⟩ y _ hy0 (by omega) hts).mono ?_
        rintro e w1 ⟨z, rfl, hz1, hz0, hzp, hb⟩
        have HB := hid (HR.out.bel.trans (hb.mono HR.out.bel.size))
        have HZp := hid hzp
        clear hb hzp
        by_cases hz : 0 ≤ z
        · go_wp2_with fail
          go_roundw
          case rel => exact ⟨k + 1, z, by go_num, rfl, by omega, hz, by omega, HR.out.sm.succ hlt (by have h : (t.size : Int) ≤ y := HZp.out hz; rw [HTe.out]; omega), HB.out⟩
          case measure => simp [intOf]; omega
        · go_wp2_with fail
          go_ret
          exact ⟨-1, rfl, by omega, by omega, fun h => by omega, HB.out⟩
      · obtain rfl : k = l.length := by omega
        go_wp2_with fail
        go_ret
        exact ⟨y, rfl, hy1, by omega, fun _ => ⟨HP.out, fun x hx => HR.out.sm x (by rw [List.take_length]; exact hx)⟩, HR.out.bel⟩
  · go_enter Tryz.func44, Tryz.ntmps44
    go_wp2_with fail
    go_ret
    exact ⟨-1, rfl, by omega, by omega, fun h => by omega, Below.refl _ _⟩
/-- What the parts of an argument are at most. -/
structure Wide (m : Img) : Prop where
  c : m.code.length ≤ 9223372036854775807
  d : m.data.length ≤ 9223372036854775807
  n : m.names.length ≤ 9223372036854775807
  t : ∀ x ∈ m.names, x.text.size ≤ 9223372036854775807
set_option maxHeartbeats 1000000 in
theorem szImage_c (m : Img) (vc vd vn : Value) (left : Int) (w : World) (hc : Rd w vc m.code) (hd : Rd w vd m.data) (hn : NRd w vn m.names) (hw : Wide m) (h0 : 0 ≤ left) (h1 : left ≤ 1048576) :
    Calls Tryz.prog 13 #[imgVal vc vd vn m, .int .i64 left] w (SzPost left (Sm m) w) := by
  obtain ⟨ac, cc, rfl⟩ := rd_slice hc
  obtain ⟨ad, cd, rfl⟩ := rd_slice hd
  obtain ⟨an, cn, rfl⟩ := nrd_slice hn
  have HN := hid hn
  have hlc := hw.c
  have hld := hw.d
  have hln := hw.n
  have HW := hid hw
  clear hc hd hn hw
  unfold imgVal
  have HX0 := hid (Row.new w 25 #[.slice ac m.code.length cc, .int .i64 m.entry, .int .i64 m.room, .slice ad m.data.length cd, .slice an m.names.length cn])
  have HB0 := hid ((Below.refl w.heap.size w).alloc (Nat.le_refl _) (.cells #[.slice ac m.code.length cc, .int .i64 m.entry, .int .i64 m.room, .slice ad m.data.length cd, .slice an m.names.length cn] 25))
  go_enter Tryz.func13, Tryz.ntmps13
  go_wp2_with fail
  refine (szIntS_c _ _ _ _ _ h0 h1 hlc).mono ?_
  rintro e w1 ⟨x, rfl, hx1, hx0, hxp, hb1⟩
  have HB1 := hid (HB0.out.trans (hb1.mono HB0.out.size))
  have HX1 := hid (HX0.out.on hb1)
  have HP1 := hid hxp
  have hz1 := hb1.size
  simp only [World.size_alloc] at hz1
  clear hb1 hxp
  by_cases hx : 0 ≤ x
  · have b3 := HX1.out.cell 3
    simp at b3
    go_wp2_with fail
    refine (szIntS_c _ _ _ _ _ hx (by omega) hld).mono ?_
    rintro e w2 ⟨y, rfl, hy1, hy0, hyp, hb2⟩
    have HB2 := hid (HB1.out.trans (hb2.mono HB1.out.size))
    have HX2 := hid (HX1.out.on hb2)
    have HP2 := hid hyp
    have hz2 := hb2.size
    clear hb2 hyp b3
    by_cases hy : 0 ≤ y
    · have b4 := HX2.out.cell 4
      simp at b4
      go_wp2_with fail
      refine (szNameS_c m.names _ _ _ (HN.out.on HB2.out) hy (by omega) hln HW.out.t).mono ?_
      rintro e w3 ⟨z, rfl, hz1, hz0, hzp, hb3⟩
      have HB3 := hid (HB2.out.trans (hb3.mono HB2.out.size))
      have HP3 := hid hzp
      clear hb3 hzp b4
      by_cases hz : 0 ≤ z
      · go_wp2_with fail
        go_ret
        exact ⟨z, rfl, by omega, by omega, fun _ => ⟨by have := HP1.out hx; omega, by have := HP2.out hy; omega, by have := (HP3.out hz).1; omega, (HP3.out hz).2⟩, HB3.out⟩
      · go_wp2_with fail
        go_ret
        exact ⟨-1, rfl, by omega, by omega, fun h => by omega, HB3.out⟩
    · go_wp2_with fail
      go_ret
      exact ⟨-1, rfl, by omega, by omega, fun h => by omega, HB2.out⟩
  · go_wp2_with fail
    go_ret
    exact ⟨-1, rfl, by omega, by omega, fun h => by omega, HB1.out⟩
theorem eqName_c (n : Nm) (w : World) : Calls Tryz.prog 94 #[.agg #[.string n.text, .int .i64 n.at_], .agg #[.string n.text, .int .i64 n.at_]] w fun e w' => e = .returned (.bool true) ∧ Below w.heap.size w w' := by
  go_enter Tryz.func94, Tryz.ntmps94
  go_wp2_with fail
  go_ret
  exact ⟨rfl, by have := (Below.refl w.heap.size w).alloc (Nat.le_refl _) (.cells #[.string n.text, .int .i64 n.at_] 105); exact this.alloc this.size _⟩
end Go.Proofs.YtihhpgklpichgaaGreat.Im
namespace Go.Proofs.YtihhpgklpichgaaGreat.Im
open Go.RowKit Pl Ft Mm In C2

set_option maxHeartbeats 1000000 in
theorem eqNameS_c (l : List Nm) (va vb : Value) (w : World) (ha : NRd w va l) (hb : NRd w vb l) (hl : l.length ≤ 1048576) :
    Calls Tryz.prog 51 #[va, vb] w fun e w' => e = .returned (.bool true) ∧ Below w.heap.size w w' := by
  obtain ⟨a, ca, rfl, ha⟩ := ha
  obtain ⟨b, cb, rfl, hb⟩ := hb
  have HA := hid ha
  have HB := hid hb
  clear ha hb
  go_enter Tryz.func51, Tryz.ntmps51
  go_wp2_with fail
  go_loopw [5] (fun c wr => ∃ k : Nat, c = .int .i64 k ∧ k ≤ l.length ∧ Below w.heap.size w wr) (fun c _ => l.length - (intOf c).toNat)
  case atStart => exact ⟨0, rfl, by omega, Below.refl _ _⟩
  case round =>
    obtain ⟨k, rfl, hk, hbel⟩ := hrel
    have HBe := hid hbel
    have hz := hbel.size
    clear hbel
    by_cases hlt : k < l.length
    · rcases HA.out with h | ⟨g, o, rfl, hg, hc⟩
      · subst h; simp at hlt
      rcases HB.out with h | ⟨g2, o2, rfl, hg2, hc2⟩
      · subst h; simp at hlt
      obtain ⟨c0, c1⟩ := hc k hlt
      obtain ⟨d0, d1⟩ := hc2 k hlt
      have q0 : wr.cell? ⟨g, o + k * 2, none⟩ = some (.string (l.getD k .none).text) := (HBe.out.cell (p := ⟨g, o + k * 2, none⟩) hg).trans c0
      have q1 : wr.cell? ⟨g, o + k * 2 + 1, none⟩ = some (.int .i64 (l.getD k .none).at_) := (HBe.out.cell (p := ⟨g, o + k * 2 + 1, none⟩) hg).trans c1
      have r0 : wr.cell? ⟨g2, o2 + k * 2, none⟩ = some (.string (l.getD k .none).text) := (HBe.out.cell (p := ⟨g2, o2 + k * 2, none⟩) hg2).trans d0
      have r1 : wr.cell? ⟨g2, o2 + k * 2 + 1, none⟩ = some (.int .i64 (l.getD k .none).at_) := (HBe.out.cell (p := ⟨g2, o2 + k * 2 + 1, none⟩) hg2).trans d1
      obtain ⟨t, hte⟩ : ∃ t, (l.getD k .none).text = t := ⟨_, rfl⟩
      obtain ⟨x, hx⟩ : ∃ t, (l.getD k .none).at_ = t := ⟨_, rfl⟩
      rw [hte] at q0 r0
      rw [hx] at q1 r1
      have hk1 : (k : Int) < l.length := by omega
      have hk0 : 0 ≤ (k : Int) := by omega
      clear hc hc2 c0 c1 d0 d1 hte hx
      go_wp2_with fail
      go_region_with (go_at_call 94; refine (eqName_c ⟨t, x⟩ _).mono ?_; rintro e w1 ⟨rfl, hb1⟩)
      all_goals
        have HB1 := hid (HBe.out.drew.trans (hb1.mono hz))
        clear hb1 q0 q1 r0 r1
        go_wp2_with fail
        go_roundw
        case rel => exact ⟨k + 1, by go_num, by omega, HB1.out⟩
        case measure => simp [intOf]; omega
    · obtain rfl : k = l.length := by omega
      go_wp2_with fail
      go_ret
      exact ⟨rfl, HBe.out⟩
set_option maxHeartbeats 1000000 in
theorem eqImage_c (m : Img) (vc vd vn vc' vd' vn' : Value) (w : World) (ha : ICells w vc vd vn m) (hb : ICells w vc' vd' vn' m) (hs : Sm m) :
    Calls Tryz.prog 18 #[imgVal vc vd vn m, imgVal vc' vd' vn' m] w fun e w' => e = .returned (.bool true) ∧ Below w.heap.size w w' := by
  have hlc := hs.c
  have hld := hs.d
  have hln := hs.n
  clear hs
  have HA := hid ha
  have HB := hid hb
  clear ha hb
  have ha1 := (Below.refl w.heap.size w).alloc (Nat.le_refl _) (.cells #[vc, .int .i64 m.entry, .int .i64 m.room, vd, vn] 30)
  have HB0 := hid (ha1.alloc ha1.size (.cells #[vc', .int .i64 m.entry, .int .i64 m.room, vd', vn'] 30))
  have HX0 := hid ((Row.new w 30 #[vc, .int .i64 m.entry, .int .i64 m.room, vd, vn]).alloc (.cells #[vc', .int .i64 m.entry, .int .i64 m.room, vd', vn'] 30))
  have HY0 := hid (Row.new (w.alloc (.cells #[vc, .int .i64 m.entry, .int .i64 m.room, vd, vn] 30)) 30 #[vc', .int .i64 m.entry, .int .i64 m.room, vd', vn'])
  simp only [World.size_alloc] at HY0
  clear ha1
  unfold imgVal
  go_enter Tryz.func18, Tryz.ntmps18
  go_wp2_with fail
  refine (eqIntS_b m.code vc vc' _ (HA.out.on HB0.out).c (HB.out.on HB0.out).c (by omega)).mono ?_
  rintro e w1 ⟨rfl, hb1⟩
  have HB1 := hid (HB0.out.trans (hb1.mono HB0.out.size))
  have HX1 := hid (HX0.out.on hb1)
  have HY1 := hid (HY0.out.on hb1)
  clear hb1
  have x1 := HX1.out.cell 1
  have x2 := HX1.out.cell 2
  have x3 := HX1.out.cell 3
  have y1 := HY1.out.cell 1
  have y2 := HY1.out.cell 2
  have y3 := HY1.out.cell 3
  simp at x1 x2 x3 y1 y2 y3
  go_wp2_with fail
  refine (eqIntS_b m.data vd vd' _ (HA.out.on HB1.out).d (HB.out.on HB1.out).d (by omega)).mono ?_
  rintro e w2 ⟨rfl, hb2⟩
  have HB2 := hid (HB1.out.trans (hb2.mono HB1.out.size))
  have HX2 := hid (HX1.out.on hb2)
  have HY2 := hid (HY1.out.on hb2)
  clear hb2 x1 x2 x3 y1 y2 y3
  have x4 := HX2.out.cell 4
  have y4 := HY2.out.cell 4
  simp at x4 y4
  go_wp2_with fail
  refine (eqNameS_c m.names vn vn' _ (HA.out.on HB2.out).n (HB.out.on HB2.out).n hln).mono ?_
  rintro e w3 ⟨rfl, hb3⟩
  have HB3 := hid (HB2.out.trans (hb3.mono HB2.out.size))
  clear hb3 x4 y4
  go_wp2_with fail
  go_ret
  exact ⟨rfl, HB3.out⟩
end Go.Proofs.YtihhpgklpichgaaGreat.Im
namespace Go.Proofs.YtihhpgklpichgaaGreat.Im
open Go.RowKit Pl Ft Mm In C2
open Go.ChangeShapes Go.WideShapes Go.Deep

section
variable {H : Type} {enc : TypeId × Value → H} {P : Program} {w : World} {base : Nat} {spare : Nat → Bool} {held : Bool}
/-- A struct of one-cell fields by value: its cells, and what each reads as. -/
theorem fields_of {r : Reach} {b0 : Nat} {t : TypeId} {fs : Array Field} {v : Value} {d : DataW H} {p : List MemPlace} (hs : P.underlying t = some (.struct fs)) (hone : oneCellFields P fs = true)
    (hv : Value.okWide P w r b0 t v) (h : DataW.Trod enc P w base spare held t v d p) :
    ∃ cs : Array Value, v = .agg cs ∧ cs.size = P.cellsOf t ∧ ∀ (i : Nat) (f : Field) (u : Value), fs[i]? = some f → cs[i]? = some u → ∃ n y, DataW.trod enc P w base spare held n f.type [u] = some y := by
  obtain ⟨cs, rfl, hsz⟩ := okWide_struct hs hv
  obtain ⟨fuel, hf⟩ := h
  obtain ⟨xs, n, _, _, _, hlen, hx⟩ := DataW.trod_struct hs hf
  refine ⟨cs, rfl, hsz, fun i f u hi hu => ?_⟩
  obtain ⟨o, k⟩ := hone_of hone i f hi
  have h1 := hx i f hi
  have hil : i < xs.length := by rw [hlen]; exact (Array.getElem?_eq_some_iff.1 hi).1
  rw [List.getElem?_eq_getElem hil, k, o] at h1
  have hc : ((Value.agg cs).cells.toList.drop i).take 1 = [u] := by
    have hu' : cs.toList[i]? = some u := by simpa using hu
    have hl : i < cs.toList.length := (List.getElem?_eq_some_iff.1 hu').1
    have e : cs.toList.drop i = cs.toList[i] :: cs.toList.drop (i + 1) := List.drop_eq_getElem_cons hl
    have e2 : cs.toList[i] = u := (List.getElem?_eq_some_iff.1 hu').2
    simp only [Value.cells]
    rw [e, e2]
    rfl
  rw [hc] at h1
  exact ⟨n, _, h1⟩
/-- A slice of numbers that came in. -/
theorem ints_of {t e : TypeId} {fuel : Nat} {u : Value} {x : DataW H × List MemPlace} (ht : P.underlying t = some (.slice e)) (he : P.underlying e = some (.int .i64)) (hc : P.cellsOf e = 1)
    (h : DataW.trod enc P w base spare held fuel t [u] = some x) : ∃ xs : List Int, Rd w u xs ∧ CapOk u ∧ xs.length ≤ maxLen := by
  rcases open_ints ht he hc h with ⟨hcs, _⟩ | ⟨a, len, cap, zs, hcs, _, hl, hm, hz, _, hcell, _⟩
  · simp only [List.cons.injEq, and_true] at hcs
    subst hcs
    exact ⟨[], Rd.nil _ _, ⟨_, _, _, rfl, Nat.le_refl _⟩, Nat.zero_le _⟩
  · simp only [List.cons.injEq, and_true] at hcs
    subst hcs
    have hlz : len ≤ zs.length := by rw [hz]; split <;> omega
    have htl : (zs.take len).length = len := by rw [List.length_take]; omega
    refine ⟨zs.take len, ?_, ⟨_, _, _, rfl, hl⟩, by omega⟩
    have := rd_of_cells (w := w) (ad := a) (xs := zs.take len) (cap := cap) (fun j hj => by
      rw [htl] at hj
      rw [hcell j (by omega)]
      congr 2
      rw [List.getD_eq_getElem?_getD, List.getD_eq_getElem?_getD, List.getElem?_take_of_lt hj])
    rwa [htl] at this
/-- A slice of names that came in. -/
theorem names_of {t e : TypeId} {f0 f1 : Field} {fuel : Nat} {u : Value} {x : DataW H × List MemPlace} (ht : P.underlying t = some (.slice e)) (he : P.underlying e = some (.struct #[f0, f1])) (hone : oneCellFields P #[f0, f1] = true) (hC : P.cellsOf e = 2)
    (h0 : P.underlying f0.type = some .string) (h1 : P.underlying f1.type = some (.int .i64)) (h : DataW.trod enc P w base spare held fuel t [u] = some x) :
    ∃ l : List Nm, NRd w u l ∧ CapOk u ∧ l.length ≤ maxLen ∧ ∀ n ∈ l, n.text.size ≤ maxLen := by
  rcases open_slice ht h with ⟨hcs, _⟩ | ⟨a, len, cap, m, n, D, Pl, hcs, _, hl, hm, hmm, _, hi⟩
  · simp only [List.cons.injEq, and_true] at hcs
    subst hcs
    exact ⟨[], NRd.nil _ _, ⟨_, _, _, rfl, Nat.le_refl _⟩, Nat.zero_le _, fun n hn => by cases hn⟩
  · simp only [List.cons.injEq, and_true] at hcs
    subst hcs
    have hlm : len ≤ m := by rw [hmm]; split <;> omega
    have each : ∀ i, ∃ q : Nm, i < len → w.cell? (a.add (i * 2)) = some (.string q.text) ∧ w.cell? (a.add (i * 2 + 1)) = some (.int .i64 q.at_) ∧ q.text.size ≤ maxLen := by
      intro i
      by_cases hil : i < len
      · obtain ⟨cs', hc, htr⟩ := hi i (by omega)
        rw [hC] at hc
        obtain ⟨_, hcl, hat⟩ := World.cells?_some hc
        obtain ⟨ys, k, _, _, _, hyl, hf⟩ := DataW.trod_struct he htr
        obtain ⟨o0, k0⟩ := hone_of hone 0 f0 rfl
        obtain ⟨o1, k1⟩ := hone_of hone 1 f1 rfl
        have g0 := hf 0 f0 rfl
        have g1 := hf 1 f1 rfl
        match cs', hcl with
        | [u0, u1], _ =>
          rw [o0, k0] at g0
          rw [o1, k1] at g1
          rw [List.getElem?_eq_getElem (by rw [hyl]; simp)] at g0 g1
          obtain ⟨s, hs, _, hsz⟩ := DataW.trod_string h0 g0
          obtain ⟨z, hz, _, _⟩ := DataW.trod_int h1 g1
          simp at hs hz
          subst hs hz
          have a0 := hat 0 (by decide)
          have a1 := hat 1 (by decide)
          simp only [List.getElem?_cons_zero, List.getElem?_cons_succ] at a0 a1
          refine ⟨⟨s, z⟩, fun _ => ⟨a0, ?_, hsz⟩⟩
          have e : (a.add (i * 2)).add 1 = a.add (i * 2 + 1) := by
            unfold Addr.add
            by_cases hi0 : i * 2 = 0 <;> simp [hi0] <;> omega
          rw [← e]
          exact a1
      · exact ⟨.none, fun hlt => absurd hlt hil⟩
    obtain ⟨f, hf⟩ := Classical.skolem.1 each
    have hlen : ((List.range len).map f).length = len := by simp
    have hget : ∀ j, j < len → ((List.range len).map f).getD j .none = f j := by
      intro j hj
      simp [hj]
    refine ⟨(List.range len).map f, ?_, ⟨_, _, _, rfl, hl⟩, by omega, ?_⟩
    · have := nrd_of_cells (w := w) (ad := a) (l := (List.range len).map f) (cap := cap) (fun j hj => by
        rw [hlen] at hj
        rw [hget j hj]
        exact ⟨(hf j hj).1, (hf j hj).2.1⟩)
      rwa [hlen] at this
    · intro n hn
      obtain ⟨j, hj, rfl⟩ := List.mem_map.1 hn
      exact (hf j (List.mem_range.1 hj)).2.2
end
theorem cells_img : Tryz.prog.cellsOf 25 = 5 := by kernel_rfl
theorem cells_int : Tryz.prog.cellsOf 3 = 1 := by kernel_rfl
theorem cells_name : Tryz.prog.cellsOf 98 = 2 := by kernel_rfl
set_option maxRecDepth 100000 in
/-- An image that came in. -/
theorem image_of {H : Type} {enc : TypeId × Value → H} {w : World} {b0 base : Nat} {spare : Nat → Bool} {held : Bool} {r : Reach} {v : Value} {d : DataW H} {p : List MemPlace}
    (hv : Value.okWide Tryz.prog w r b0 25 v) (h : DataW.Trod enc Tryz.prog w base spare held 25 v d p) :
    ∃ (m : Img) (vc vd vn : Value), v = imgVal vc vd vn m ∧ Rd w vc m.code ∧ Rd w vd m.data ∧ NRd w vn m.names ∧ Wide m := by
  obtain ⟨cs, rfl, hsz, hf⟩ := fields_of Tryz.underlying25 (by kernel_rfl) hv h
  rw [cells_img] at hsz
  obtain ⟨l⟩ := cs
  match l, hsz with
  | [u0, u1, u2, u3, u4], _ =>
    obtain ⟨_, _, t0⟩ := hf 0 _ u0 rfl rfl
    obtain ⟨_, _, t1⟩ := hf 1 _ u1 rfl rfl
    obtain ⟨_, _, t2⟩ := hf 2 _ u2 rfl rfl
    obtain ⟨_, _, t3⟩ := hf 3 _ u3 rfl rfl
    obtain ⟨_, _, t4⟩ := hf 4 _ u4 rfl rfl
    obtain ⟨xs, hx, _, hxl⟩ := ints_of Tryz.underlying22 Tryz.underlying3 cells_int t0
    obtain ⟨e, he, _, _⟩ := DataW.trod_int Tryz.underlying3 t1
    obtain ⟨r, hr, _, _⟩ := DataW.trod_int Tryz.underlying3 t2
    obtain ⟨ys, hy, _, hyl⟩ := ints_of Tryz.underlying22 Tryz.underlying3 cells_int t3
    obtain ⟨ns, hn, _, hnl, hnt⟩ := names_of Tryz.underlying23 Tryz.underlying98 (by kernel_rfl) cells_name Tryz.underlying9 Tryz.underlying3 t4
    simp at he hr
    subst he hr
    unfold maxLen at hxl hyl hnl hnt
    exact ⟨⟨xs, e, r, ys, ns⟩, u0, u3, u4, rfl, hx, hy, hn, ⟨hxl, hyl, hnl, hnt⟩⟩
end Go.Proofs.YtihhpgklpichgaaGreat.Im
