/- The heads of a graph, and whether it is reducible: the program. -/
import Derived.Test.YtbbhbjdpdhbjlaaGy
set_option linter.unusedSimpArgs false
set_option linter.unusedVariables false
namespace Go.Proofs.Ytbbhbjdpdhbjlaa.Ge
open Go.RowKit Pl Ft Mm In Gp

/-- The cells of an edge that stands in a row of them. -/
theorem ed_cells {w : World} {lo : Nat} {v : Value} {l : List (Nat × Nat)} (h : w.ownsRow lo 76 2 v l.length (eCells l)) {k : Nat} (hk : k < l.length) :
    ∃ b cap, v = .slice (some ⟨b, 0, none⟩) l.length cap ∧ b < w.heap.size ∧ w.cell? ⟨b, k * 2, none⟩ = some (.int .i64 (l.getD k (0, 0)).1) ∧ w.cell? ⟨b, k * 2 + 1, none⟩ = some (.int .i64 (l.getD k (0, 0)).2) := by
  obtain ⟨b, cap, rfl, _, hb⟩ := own_addr h (by omega)
  obtain ⟨c0, c1⟩ := eCells_get l k hk
  have h0 := h.cells (g := b) rfl _ _ c0
  have h1 := h.cells (g := b) rfl _ _ c1
  have e : ∀ j, (⟨b, 0, none⟩ : Addr).add j = ⟨b, j, none⟩ := fun j => by unfold Addr.add; split <;> simp_all
  rw [e] at h0 h1
  exact ⟨b, cap, rfl, hb, h0, h1⟩
noncomputable def headsP (L : Nat → List Nat) (N : Nat) : List Int := truesL (fun q => decide (q ∈ (backsP L).map Prod.snd)) N
theorem backsP_len {g : List (List Int)} (hok : okG g = true) : (backsP (adj g)).length ≤ 270 := by
  have h1 := backsTo_len hok (orderP (adj g)).length (Nat.le_refl _)
  have h2 := order_len (adj_bd hok)
  have h3 := okG_len hok
  unfold backsP
  omega
theorem backs_lt {g : List (List Int)} (hok : okG g = true) {e : Nat × Nat} (h : e ∈ backsP (adj g)) : e.1 ∈ orderP (adj g) ∧ e.2 ∈ orderP (adj g) ∧ e.2 ∈ adj g e.1 := by
  obtain ⟨i, hi, h1, h2, h3⟩ := mem_backsTo.1 h
  have hm : (orderP (adj g)).getD i 0 ∈ orderP (adj g) := by simp [hi]
  rw [h1]
  exact ⟨hm, List.mem_of_mem_take h3, h2⟩
theorem heads_sort {g : List (List Int)} (hok : okG g = true) : Lib.compact (sortI (natI ((backsP (adj g)).map Prod.snd))) = headsP (adj g) g.length := by
  rw [compact_sorted _ g.length]
  · unfold headsP
    congr 1
    funext q
    exact decide_eq_decide.2 mem_natI'
  · intro x hx
    obtain ⟨p, hp, rfl⟩ := mem_natI.1 hx
    obtain ⟨e, he, rfl⟩ := List.mem_map.1 hp
    have := order_lt (adj_bd hok) _ (backs_lt hok he).2.1
    omega
theorem headsP_len {L : Nat → List Nat} (N : Nat) : (headsP L N).length ≤ N := truesL_len _ _
theorem take_snoc' {α : Type} (d : α) (qs : List α) (k : Nat) (h : k < qs.length) : qs.take (k + 1) = qs.take k ++ [qs.getD k d] := by
  rw [List.take_succ_eq_append_getElem h]
  simp [h]
set_option maxRecDepth 100000 in
set_option maxHeartbeats 4000000 in
theorem heads_c (g : List (List Int)) (vg vo : Value) (w : World) (h : Sd w vg vo g) :
    Calls Try.prog 59 #[.agg #[vg, vo]] w (WaysPost (headsP (adj g) g.length) w) := by
  have HSd := hid h
  have HOk := hid h.ok
  have hlen := h.len
  have HB1 := hid ((Below.refl w.heap.size w).alloc (Nat.le_refl _) (.cells #[vg, vo] 48))
  clear h
  go_enter Try.func59, Try.ntmps59
  go_wp2_with fail
  refine (backs_c g vg vo _ (HSd.out.on HB1.out)).mono ?_
  rintro e w2 ⟨v2, rfl, hown2, hb2⟩
  have HB2 := hid (HB1.out.trans (hb2.mono HB1.out.size))
  have hbl := backsP_len HOk.out
  obtain ⟨es, hes⟩ : ∃ es, backsP (adj g) = es := ⟨_, rfl⟩
  have HEs := hid hes
  rw [hes] at hown2 hbl
  have HO2 := hid hown2
  obtain ⟨s2, c2, rfl⟩ := own_slice hown2
  clear hown2 hb2 hes
  go_wp2_with fail
  go_loopw [3, 9] (fun v y wr => ∃ (k : Nat) (xs : List Int), y = .int .i64 k ∧ k ≤ es.length ∧ xs = natI ((es.take k).map Prod.snd) ∧ wr.ownsRow w2.heap.size 3 1 v xs.length (ints xs) ∧ Below w2.heap.size w2 wr) (fun _ y _ => es.length - (intOf y).toNat)
  case atStart => exact ⟨0, [], rfl, by omega, by simp [natI], World.ownsRow_nil _ _ _ _, Below.refl _ _⟩
  case round =>
    obtain ⟨k, xs, rfl, hk, hxs, hown, hbel⟩ := hrel
    have HO := hid hown
    have HBe := hid hbel
    have HX := hid hxs
    have hxl : xs.length ≤ 270 := by rw [hxs, natI_len, List.length_map, List.length_take]; omega
    have hz := hbel.size
    obtain ⟨sv, cv, rfl⟩ := own_slice hown
    clear hown hxs
    by_cases hlt : k < es.length
    case neg =>
      obtain rfl : k = es.length := by omega
      clear hbel
      have HXe := hid (show xs = natI ((backsP (adj g)).map Prod.snd) by rw [HX.out, HEs.out, List.take_length])
      go_wp2_with fail
      refine (sort_c w2.heap.size xs _ wr HO.out (by omega)).mono ?_
      rintro e w3 ⟨rfl, hown3, ho3⟩
      have HOn3 := hid ho3
      obtain ⟨zs, hzs⟩ : ∃ z, sortI xs = z := ⟨_, rfl⟩
      have HZs := hid hzs
      have hzl : zs.length = xs.length := by rw [← hzs]; exact sortI_len xs
      have HZl := hid hzl
      have hown3 : w3.ownsRow w2.heap.size 3 1 (.slice sv zs.length cv) zs.length (ints zs) := by rw [hzs] at hown3; rw [← hzl] at hown3; exact hown3
      have HO3 := hid hown3
      clear hown3 ho3 hzs hzl
      rw [← HZl.out]
      go_wp2_with fail
      refine (compact_c w2.heap.size zs _ w3 HO3.out (by rw [HZl.out]; omega)).mono ?_
      rintro e w4 ⟨v4, rfl, hown4, ho4⟩
      rw [← HZs.out, HXe.out, heads_sort HOk.out] at hown4
      have HO4 := hid (own_mono hown4 HB2.out.size)
      have hlo : ∀ k, (Value.slice sv xs.length cv).ownBlock = some k → w2.heap.size ≤ k := fun k hk => (HO.out.lt k hk).1
      have HB4 := hid (HB2.out.trans ((HBe.out.trans ((HOn3.out.trans (ho4.mono (fun k hk => by cases sv <;> exact hk))).below hz hlo)).mono HB2.out.size))
      obtain ⟨s4, c4, rfl⟩ := own_slice hown4
      clear hown4 ho4 hlo
      go_wp2_with fail
      go_ret
      exact ⟨_, rfl, HO4.out, HB4.out⟩
    obtain ⟨b, cap, hve, hbb, q0, q1⟩ := ed_cells (own_on HO2.out hbel) hlt
    simp only [Value.slice.injEq, true_and] at hve
    obtain ⟨rfl, rfl⟩ := hve
    have HT := hid (show natI ((es.take (k + 1)).map Prod.snd) = xs ++ [((es.getD k (0, 0)).2 : Int)] by rw [take_snoc' (0, 0) es k hlt, List.map_append, natI_app, ← HX.out]; rfl)
    obtain ⟨⟨p, t⟩, het⟩ : ∃ z, es.getD k (0, 0) = z := ⟨_, rfl⟩
    rw [het] at q0 q1 HT
    simp only at q0 q1 HT
    clear hbel het
    obtain ⟨w3, hw3⟩ : ∃ w3, wr.alloc (.cells #[.int .i64 p, .int .i64 t] 76) = w3 := ⟨_, rfl⟩
    have hba := (Below.refl wr.heap.size wr).alloc (Nat.le_refl _) (.cells #[.int .i64 p, .int .i64 t] 76)
    have hr3 := Row.new wr 76 #[.int .i64 p, .int .i64 t]
    rw [hw3] at hba hr3
    have HBa := hid hba
    have HR3 := hid hr3
    have HO3 := hid (own_on HO.out hba)
    have HW3 := hid hw3
    have e1 := hr3.cell 1
    simp at e1
    have hz3 := hba.size
    clear hba hr3 hw3
    go_upto_region 5 with fail
    rw [HW3.out]
    clear q0 q1
    go_wp2_with (at_builtin; refine app_ints _ rfl _ _ rfl w2.heap.size xs [(t : Int)] _ rfl (HO3.out.alloc _) _ _ _ rfl rfl (SrcAt.at_ _ [(t : Int)] #[.int .i64 t] _ 1 rfl (by simp) rfl) (by simp; omega) (by simp; omega) ?_; intro v7 w7 hg7; have HG7 := hid hg7; have hba := (Below.refl w3.heap.size w3).alloc (Nat.le_refl _) (.cells #[.int .i64 t] 3); have HBb := hid hba; have hown7 := hg7.own; obtain ⟨ys, hys⟩ : ∃ z, xs ++ [(t : Int)] = z := ⟨_, rfl⟩; rw [hys] at hown7; have HYs := hid hys; have HO7 := hid hown7; obtain ⟨s7, c7, rfl⟩ := own_slice hown7; clear hg7 hba hown7 hys)
    go_wp2_with fail
    go_roundw
    case rel =>
      have o37 : Only (fun k => (Value.slice sv xs.length cv).ownBlock = some k) wr w7 := ((Only.of_below HBa.out).trans (Only.of_below HBb.out)).trans (grows_only HG7.out)
      exact ⟨k + 1, ys, by go_num, by omega, by rw [HT.out, HYs.out], HO7.out, HBe.out.trans (o37.below hz (fun k hk => (HO.out.lt k hk).1))⟩
    case measure => simp [intOf]; omega
/-- What an edge asks of a reducible graph. -/
noncomputable def redE (L : Nat → List Nat) (e : Nat × Nat) : Bool := decide (e.1 ∈ belowP L (e.2 : Int))
set_option maxHeartbeats 1000000 in
theorem red1_c (g : List (List Int)) (vg vo : Value) (p t bs : Nat) (w : World) (h : Sd w vg vo g) (hs : Row w bs 48 #[vg, vo]) :
    Calls Try.prog 84 #[.agg #[.int .i64 p, .int .i64 t], .pointer (some ⟨bs, 0, none⟩)] w fun e w' => e = .returned (.bool (redE (adj g) (p, t))) ∧ Below w.heap.size w w' := by
  have HSd := hid h
  have HB1 := hid ((Below.refl w.heap.size w).alloc (Nat.le_refl _) (.cells #[.int .i64 p, .int .i64 t] 76))
  have hs1 := hs.alloc (.cells #[.int .i64 p, .int .i64 t] 76)
  have s0 := hs1.cell 0
  have s1 := hs1.cell 1
  simp at s0 s1
  obtain ⟨r, hr⟩ : ∃ r, redE (adj g) (p, t) = r := ⟨_, rfl⟩
  have HR := hid (show decide ((p : Int) ∈ natI (belowP (adj g) (t : Int))) = r by rw [← hr]; exact decide_eq_decide.2 mem_natI')
  rw [hr]
  clear h hs hs1 hr
  go_enter Try.func84, Try.ntmps84
  go_wp2_with fail
  refine (isOver_c g t p vg vo _ (HSd.out.on HB1.out)).mono ?_
  rintro e w2 ⟨rfl, hb2⟩
  rw [HR.out]
  have HB2 := hid (HB1.out.trans (hb2.mono HB1.out.size))
  clear hb2
  go_wp2_with fail
  go_ret
  exact ⟨rfl, HB2.out⟩
end Go.Proofs.Ytbbhbjdpdhbjlaa.Ge
