/- Simpler terms: what a term of simple parts is more simply, by the program. -/
import Derived.Test.YtffibmlgdacafaaDoorWg
import Derived.Deep.RegionHeld3
set_option linter.unusedSimpArgs false
set_option linter.unusedVariables false
namespace Go.Proofs.YtffibmlgdacafaaDoor.Um
open Go.RowKit Pl Ft Mm In C2 Im

/-- Both parts of a row of two, by their cells. -/
theorem KOwn.two {w : World} {n lo hi : Nat} {v : Value} {ks : List Tm} (h : KOwn w (n + 1) lo hi v ks) (hl2 : ks.length = 2) :
    ∃ (r cap f0 g0 f1 g1 : Nat) (u0 u1 : Value), v = .slice (some ⟨r, 0, none⟩) 2 cap ∧ r < w.heap.size ∧
      w.cell? ⟨r, 0, none⟩ = some (.int .i64 (ks.getD 0 tz).kind) ∧ w.cell? ⟨r, 1, none⟩ = some (.int .i64 (ks.getD 0 tz).num) ∧ w.cell? ⟨r, 2, none⟩ = some (.string (ks.getD 0 tz).text) ∧ w.cell? ⟨r, 3, none⟩ = some u0 ∧
      w.cell? ⟨r, 4, none⟩ = some (.int .i64 (ks.getD 1 tz).kind) ∧ w.cell? ⟨r, 5, none⟩ = some (.int .i64 (ks.getD 1 tz).num) ∧ w.cell? ⟨r, 6, none⟩ = some (.string (ks.getD 1 tz).text) ∧ w.cell? ⟨r, 7, none⟩ = some u1 ∧
      lo ≤ f0 ∧ g0 ≤ hi ∧ lo ≤ f1 ∧ g1 ≤ hi ∧ (g0 ≤ f1 ∨ g1 ≤ f0) ∧ KOwn w n f0 g0 u0 (ks.getD 0 tz).kids ∧ KOwn w n f1 g1 u1 (ks.getD 1 tz).kids := by
  obtain ⟨us, f, g, hl, hrow, hk⟩ := h.kid
  obtain ⟨r, cap, rfl, hr1, hr2⟩ := own_addr hrow (by omega)
  obtain ⟨c0, c1, c2, c3⟩ := tCells_get ks us 0 (by omega) hl
  obtain ⟨e0, e1, e2, e3⟩ := tCells_get ks us 1 (by omega) hl
  have hc : ∀ i u, (tCells ks us)[i]? = some u → w.cell? ⟨r, i, none⟩ = some u := by
    intro i u hu
    have := hrow.cells (g := r) rfl i u hu
    rwa [add_none, Nat.zero_add] at this
  obtain ⟨a1, a2, _, a4⟩ := hk 0 (by omega)
  obtain ⟨b1, b2, b3, b4⟩ := hk 1 (by omega)
  exact ⟨r, cap, f 0, g 0, f 1, g 1, us.getD 0 vz, us.getD 1 vz, by rw [hl2], hr2, hc _ _ c0, hc _ _ c1, hc _ _ c2, hc _ _ c3, hc _ _ e0, hc _ _ e1, hc _ _ e2, hc _ _ e3, a1, a2, b1, b2, b3 0 (by omega), a4, b4⟩
set_option maxRecDepth 100000 in
set_option maxHeartbeats 8000000 in
theorem simpler_c (m lo f0 g0 G h : Nat) (a : Tm) (va : Value) (w : World) (hs : shape (h + 1) a = true) (h14 : h ≤ 14) (hsz : a.size ≤ 20000) (ha : KOwn w (m + 1) f0 g0 va a.kids) (hlo : lo ≤ f0) (hhi : g0 ≤ G) (hG : G ≤ w.heap.size) (hT : Tabs w) :
    Calls Tryd.prog 79 #[tmVal a va] w (FoldPost (m + 1) lo G (onceT a) w) := by
  have HSz := hid hsz
  obtain ⟨hf, hks⟩ := shape_at hs
  have HBf := hid (fun hk => bin_form hf hk)
  have HNf := hid (fun hk => not_form hf hk)
  have HKs := hid hks
  clear hsz hf hks
  obtain ⟨sa, ca, rfl⟩ := ha.slice
  have HLw := hid (show lo ≤ w.heap.size by have := ha.le; omega)
  have HA := hid ha
  have HLo := hid hlo
  have HHi := hid hhi
  have HG := hid hG
  have HT := hid hT
  have HSh := hid hs
  clear ha hlo hhi hT hs hG
  obtain ⟨x0, x1, x2, la, hp⟩ := Pt.of a
  have HP := hid hp
  rw [hp.val]
  rw [hp.l] at HA ⊢
  clear hp
  have HB00 := hid ((Below.refl w.heap.size w).alloc (Nat.le_refl _) (.cells #[.int .i64 x0, .int .i64 x1, .string x2, .slice sa la ca] 28))
  have HB0 := hid (HB00.out.alloc HB00.out.size (.cells #[.int .i64 0, .int .i64 0, .string ⟨#[]⟩, .slice none 0 0] 28))
  have HZ0 := hid (Row.new (w.alloc (.cells #[.int .i64 x0, .int .i64 x1, .string x2, .slice sa la ca] 28)) 28 #[.int .i64 0, .int .i64 0, .string ⟨#[]⟩, .slice none 0 0])
  have HX0 := hid ((Row.new w 28 #[.int .i64 x0, .int .i64 x1, .string x2, .slice sa la ca]).alloc (.cells #[.int .i64 0, .int .i64 0, .string ⟨#[]⟩, .slice none 0 0] 28))
  have HBa := hid (HB00.out.alloc HB00.out.size (.cells #[.int .i64 x0, .int .i64 x1, .string x2, .slice sa la ca] 28))
  have HZa := hid (Row.new (w.alloc (.cells #[.int .i64 x0, .int .i64 x1, .string x2, .slice sa la ca] 28)) 28 #[.int .i64 x0, .int .i64 x1, .string x2, .slice sa la ca])
  simp only [World.size_alloc] at HZ0 HZa
  by_cases hk2 : a.kind = 2
  · obtain ⟨hl2, ho, hz⟩ := HBf.out hk2
    rw [HP.out.s] at ho
    obtain ⟨r, cap, f2, g2, f3, g3, u0, u1, hv, hrl, c0, c1, c2, c3, e0, e1, e2, e3, p1, p2, p3, p4, p5, k4, k5⟩ := HA.out.two hl2
    obtain ⟨hsa, hca⟩ : sa = some ⟨r, 0, none⟩ ∧ la = 2 := by cases hv; exact ⟨rfl, rfl⟩
    subst hsa hca
    clear hv
    have hs0 := HKs.out 0 (by omega)
    have hs1 := HKs.out 1 (by omega)
    have HOn := hid (show onceT a = onceBin (sameT 14 (a.kids.getD 0 tz) (a.kids.getD 1 tz)) (a.kids.getD 0 tz) x2 (a.kids.getD 1 tz) by rw [onceT, if_pos hk2, HP.out.s])
    obtain ⟨k0, hk0⟩ : ∃ t, a.kids.getD 0 tz = t := ⟨_, rfl⟩
    obtain ⟨k1, hk1⟩ : ∃ t, a.kids.getD 1 tz = t := ⟨_, rfl⟩
    rw [hk0] at c0 c1 c2 k4 hs0 HOn
    rw [hk1] at e0 e1 e2 k5 hs1 HOn
    rw [hk0, hk1] at hz
    obtain ⟨z0, z1, z2, lz, hq0⟩ := Pt.of k0
    obtain ⟨y0, y1, y2, ly, hq1⟩ := Pt.of k1
    have HQ0 := hid hq0
    have HQ1 := hid hq1
    rw [hq0.k] at c0
    rw [hq0.n] at c1
    rw [hq0.s] at c2
    rw [hq1.k] at e0
    rw [hq1.n] at e1
    rw [hq1.s] at e2
    have hw0 := shape_wide _ _ hs0
    have hw1 := shape_wide _ _ hs1
    have HPc := hid (fun (wx : World) (hb : Below w.heap.size w wx) => (show wx.cell? ⟨r, 0, none⟩ = some (.int .i64 z0) ∧ wx.cell? ⟨r, 1, none⟩ = some (.int .i64 z1) ∧ wx.cell? ⟨r, 2, none⟩ = some (.string z2) ∧ wx.cell? ⟨r, 3, none⟩ = some u0 ∧ wx.cell? ⟨r, 4, none⟩ = some (.int .i64 y0) ∧ wx.cell? ⟨r, 5, none⟩ = some (.int .i64 y1) ∧ wx.cell? ⟨r, 6, none⟩ = some (.string y2) ∧ wx.cell? ⟨r, 7, none⟩ = some u1 from ⟨(hb.cell (p := ⟨r, 0, none⟩) hrl).trans c0, (hb.cell (p := ⟨r, 1, none⟩) hrl).trans c1, (hb.cell (p := ⟨r, 2, none⟩) hrl).trans c2, (hb.cell (p := ⟨r, 3, none⟩) hrl).trans c3, (hb.cell (p := ⟨r, 4, none⟩) hrl).trans e0, (hb.cell (p := ⟨r, 5, none⟩) hrl).trans e1, (hb.cell (p := ⟨r, 6, none⟩) hrl).trans e2, (hb.cell (p := ⟨r, 7, none⟩) hrl).trans e3⟩))
    have hzz := HSz.out
    have hlo := HLo.out
    have hhi := HHi.out
    have hgg := HG.out
    obtain ⟨ob, hob⟩ : ∃ q, onceBin (sameT 14 k0 k1) k0 x2 k1 = q := ⟨_, rfl⟩
    have HBi := hid (fun (wx : World) (hb : Below w.heap.size w wx) => (show Calls Tryd.prog 123 #[.agg #[.int .i64 z0, .int .i64 z1, .string z2, u0], .string x2, .agg #[.int .i64 y0, .int .i64 y1, .string y2, u1]] wx (FoldPost (m + 1) lo G ob wx) from by
      have := simplerBin_c m lo f2 g2 f3 g3 G h k0 k1 u0 u1 x2 wx hs0 hs1 h14 ho (k4.on hb) (k5.on hb) (by omega) (by omega) (by omega) (by omega) p5 (by have := hb.size; omega) (by omega) (by omega) (HT.out.on hb)
      rw [hob, HQ0.out.val, HQ1.out.val] at this
      exact this))
    rw [hob] at HOn
    have HRl := hid hrl
    obtain rfl : x0 = 2 := HP.out.k.symm.trans hk2
    clear hl2 ho hz c0 c1 c2 c3 e0 e1 e2 e3 p1 p2 p3 p4 p5 k4 k5 hs0 hs1 hk0 hk1 hq0 hq1 hw0 hw1 hzz hlo hhi hgg hob hrl hk2
    go_enter Tryd.func79, Tryd.ntmps79
    go_upto_region 3 with fail
    generalize ((w.alloc (.cells #[.int .i64 2, .int .i64 x1, .string x2, .slice (some ⟨r, 0, none⟩) 2 ca] 28)).alloc (.cells #[.int .i64 0, .int .i64 0, .string ⟨#[]⟩, .slice none 0 0] 28)) = w0 at HB0 HX0 HZ0 ⊢
    have HBe0 := hid (HB0.out.drew)
    have HZe0 := hid (HZ0.out.drew)
    have hx0 := HZ0.out.lt
    have HSx := hid (fun (wx : World) (hbx : Below (w.heap.size + 1) w0 wx) => (show wx.cell? ⟨w.heap.size, 0, none⟩ = some (.int .i64 2) ∧ wx.cell? ⟨w.heap.size, 1, none⟩ = some (.int .i64 x1) ∧ wx.cell? ⟨w.heap.size, 2, none⟩ = some (.string x2) ∧ wx.cell? ⟨w.heap.size, 3, none⟩ = some (.slice (some ⟨r, 0, none⟩) 2 ca) ∧ wx.cell? ⟨r, 0, none⟩ = some (.int .i64 z0) ∧ wx.cell? ⟨r, 1, none⟩ = some (.int .i64 z1) ∧ wx.cell? ⟨r, 2, none⟩ = some (.string z2) ∧ wx.cell? ⟨r, 3, none⟩ = some u0 ∧ wx.cell? ⟨r, 4, none⟩ = some (.int .i64 y0) ∧ wx.cell? ⟨r, 5, none⟩ = some (.int .i64 y1) ∧ wx.cell? ⟨r, 6, none⟩ = some (.string y2) ∧ wx.cell? ⟨r, 7, none⟩ = some u1 from by
      have c0 := (HX0.out.below hbx (Nat.lt_succ_self _)).cell 0
      have c1 := (HX0.out.below hbx (Nat.lt_succ_self _)).cell 1
      have c2 := (HX0.out.below hbx (Nat.lt_succ_self _)).cell 2
      have c3 := (HX0.out.below hbx (Nat.lt_succ_self _)).cell 3
      obtain ⟨p0, p1, p2, p3, p4, p5, p6, p7⟩ := HPc.out wx (HB0.out.trans (hbx.mono (by have := HB0.out.size; omega)))
      exact ⟨c0, c1, c2, c3, p0, p1, p2, p3, p4, p5, p6, p7⟩))
    have HD0 := hid (show Below (w.heap.size + 1) w0 w0.drew from (Below.refl w0.heap.size w0).drew.mono (by omega))
    refine wp_region_held_drew (S := fun w' => w'.cell? ⟨w.heap.size, 0, none⟩ = some (.int .i64 2) ∧ w'.cell? ⟨w.heap.size, 1, none⟩ = some (.int .i64 x1) ∧ w'.cell? ⟨w.heap.size, 2, none⟩ = some (.string x2) ∧ w'.cell? ⟨w.heap.size, 3, none⟩ = some (.slice (some ⟨r, 0, none⟩) 2 ca) ∧ w'.cell? ⟨r, 0, none⟩ = some (.int .i64 z0) ∧ w'.cell? ⟨r, 1, none⟩ = some (.int .i64 z1) ∧ w'.cell? ⟨r, 2, none⟩ = some (.string z2) ∧ w'.cell? ⟨r, 3, none⟩ = some u0 ∧ w'.cell? ⟨r, 4, none⟩ = some (.int .i64 y0) ∧ w'.cell? ⟨r, 5, none⟩ = some (.int .i64 y1) ∧ w'.cell? ⟨r, 6, none⟩ = some (.string y2) ∧ w'.cell? ⟨r, 7, none⟩ = some u1) (by kernel_rfl) (HSx.out _ HD0.out) (fun hHeld => ?_)
    refine wpAnyH_take (i := 0) (v := _) rfl (by kernel_rfl) (by kernel_rfl) (by kernel_rfl) (fun _ _ _ h => h) (Or.inl ⟨by rfl, by (intro w hSw; (try dsimp only at hSw); go_simp; first | done | with_reducible rfl)⟩) hHeld ?_
    (try simp only [Act.put, List.setIfInBounds_toArray, List.set_cons_zero, List.set_cons_succ])
    refine wpAnyH_take (i := 1) (v := _) rfl (by kernel_rfl) (by kernel_rfl) (by kernel_rfl) (fun _ _ _ h => h) (Or.inl ⟨by rfl, by (intro w hSw; (try dsimp only at hSw); go_simp; first | done | with_reducible rfl)⟩) hHeld ?_
    (try simp only [Act.put, List.setIfInBounds_toArray, List.set_cons_zero, List.set_cons_succ])
    refine wpAnyH_take (i := 2) (v := _) rfl (by kernel_rfl) (by kernel_rfl) (by kernel_rfl) (fun _ _ _ h => h) (Or.inl ⟨by rfl, by (intro w hSw; (try dsimp only at hSw); go_simp; first | done | with_reducible rfl)⟩) hHeld ?_
    (try simp only [Act.put, List.setIfInBounds_toArray, List.set_cons_zero, List.set_cons_succ])
    refine wpAnyH_take (i := 3) (v := _) rfl (by kernel_rfl) (by kernel_rfl) (by kernel_rfl) (fun _ _ _ h => h) (Or.inl ⟨by rfl, by (intro w hSw; (try dsimp only at hSw); go_simp; first | done | with_reducible rfl)⟩) hHeld ?_
    (try simp only [Act.put, List.setIfInBounds_toArray, List.set_cons_zero, List.set_cons_succ])
    refine wpAnyH_take (i := 4) (v := _) rfl (by kernel_rfl) (by kernel_rfl) (by kernel_rfl) (fun _ _ _ h => h) (Or.inl ⟨by rfl, by (intro w hSw; (try dsimp only at hSw); go_simp; first | done | with_reducible rfl)⟩) hHeld ?_
    (try simp only [Act.put, List.setIfInBounds_toArray, List.set_cons_zero, List.set_cons_succ])
    refine wpAnyH_take (i := 5) (v := _) rfl (by kernel_rfl) (by kernel_rfl) (by kernel_rfl) (fun _ _ _ h => h) (Or.inl ⟨by rfl, by (intro w hSw; (try dsimp only at hSw); go_simp; first | done | with_reducible rfl)⟩) hHeld ?_
    (try simp only [Act.put, List.setIfInBounds_toArray, List.set_cons_zero, List.set_cons_succ])
    refine wpAnyH_take (i := 6) (v := _) rfl (by kernel_rfl) (by kernel_rfl) (by kernel_rfl) (fun _ _ _ h => h) (Or.inl ⟨by rfl, by (intro w hSw; (try dsimp only at hSw); go_simp; first | done | with_reducible rfl)⟩) hHeld ?_
    (try simp only [Act.put, List.setIfInBounds_toArray, List.set_cons_zero, List.set_cons_succ])
    refine wpAnyH_take (i := 7) (v := _) rfl (by kernel_rfl) (by kernel_rfl) (by kernel_rfl) (fun _ _ _ h => h) (Or.inl ⟨by rfl, by (intro w hSw; (try dsimp only at hSw); go_simp; first | done | with_reducible rfl)⟩) hHeld ?_
    (try simp only [Act.put, List.setIfInBounds_toArray, List.set_cons_zero, List.set_cons_succ])
    refine wpAnyH_take (i := 8) (v := _) rfl (by kernel_rfl) (by kernel_rfl) (by kernel_rfl) (fun _ _ _ h => h) (Or.inl ⟨by rfl, by (intro w hSw; (try dsimp only at hSw); go_simp; first | done | with_reducible rfl)⟩) hHeld ?_
    (try simp only [Act.put, List.setIfInBounds_toArray, List.set_cons_zero, List.set_cons_succ])
    refine wpAnyH_take (i := 9) (v := _) rfl (by kernel_rfl) (by kernel_rfl) (by kernel_rfl) (fun _ _ _ h => h) (Or.inl ⟨by rfl, by (intro w hSw; (try dsimp only at hSw); go_simp; first | done | with_reducible rfl)⟩) hHeld ?_
    (try simp only [Act.put, List.setIfInBounds_toArray, List.set_cons_zero, List.set_cons_succ])
    generalize w0.drew = v0 at HBe0 HZe0 HD0 hHeld ⊢
    refine wpAnyH_ready (rs := [10]) (by kernel_rfl) (by simp) ?_
    refine AllReadyH.cons rfl (fun K hK => ?_) AllReadyH.nil
    go_simp
    go_at_call 123
    refine (HBi.out _ HBe0.out).mono ?_
    rintro e v1 ⟨tR, sR, cR, rfl, hown, hbx⟩
    obtain ⟨q0, q1, q2, lR, hr⟩ := Pt.of tR
    rw [hr.val]
    rw [hr.l] at hown ⊢
    have HOw := hid hown
    have HR := hid hr
    clear hown hr
    obtain ⟨bo, hbo⟩ : ∃ q, ob.isSome = q := ⟨_, rfl⟩
    have HBo := hid hbo
    rw [hbo]
    clear hbo
    simp only
    have HBe1 := hid (HBe0.out.trans (hbx.mono HBe0.out.size))
    have HZe1 := hid (HZe0.out.on hbx)
    have HD1 := hid (HD0.out.trans (hbx.mono (by have := HD0.out.size; omega)))
    refine hK.out _ _ (HSx.out _ HD1.out) (fun hHeld => ?_)
    clear hK K
    (try simp only [Act.put, List.setIfInBounds_toArray, List.set_cons_zero, List.set_cons_succ])
    refine wpAnyH_take (i := 11) (v := _) rfl (by kernel_rfl) (by kernel_rfl) (by kernel_rfl) (fun _ _ _ h => h) (Or.inl ⟨by rfl, by (intro w hSw; (try dsimp only at hSw); go_simp; first | done | with_reducible rfl)⟩) hHeld ?_
    (try simp only [Act.put, List.setIfInBounds_toArray, List.set_cons_zero, List.set_cons_succ])
    refine wpAnyH_take (i := 12) (v := _) rfl (by kernel_rfl) (by kernel_rfl) (by kernel_rfl) (fun _ _ _ h => h) (Or.inl ⟨by rfl, by (intro w hSw; (try dsimp only at hSw); go_simp; first | done | with_reducible rfl)⟩) hHeld ?_
    (try simp only [Act.put, List.setIfInBounds_toArray, List.set_cons_zero, List.set_cons_succ])
    refine wpAnyH_ready (rs := [13]) (by kernel_rfl) (by simp) ?_
    refine AllReadyH.cons rfl (fun K hK => ?_) AllReadyH.nil
    have r0 := HZe1.out.cell 0
    have r1 := HZe1.out.cell 1
    have r2 := HZe1.out.cell 2
    have r3 := HZe1.out.cell 3
    simp at r0 r1 r2 r3
    have hfr := HZe1.out.free
    have hlz := HZe1.out.lt
    go_simp
    refine hK.out _ _ (HSx.out _ (four_bel HD1.out (Nat.le_refl _) _ _ _ _)) (fun hHeld => ?_)
    clear hK K r0 r1 r2 r3 hfr
    (try simp only [Act.put, List.setIfInBounds_toArray, List.set_cons_zero, List.set_cons_succ])
    refine wpAnyH_ready (rs := [14]) (by kernel_rfl) (by simp) ?_
    refine AllReadyH.cons rfl (fun K hK => ?_) AllReadyH.nil
    go_simp
    refine hK.out _ _ hHeld (fun _ => ?_)
    clear hK K
    (try simp only [Act.put, List.setIfInBounds_toArray, List.set_cons_zero, List.set_cons_succ])
    refine wpAnyH_done (by kernel_rfl) ?_ _
    go_wp2_with fail
    refine bodyPost_ret (v := .tuple #[.agg #[.int .i64 q0, .int .i64 q1, .string q2, .slice sR lR cR], .bool bo]) ?_ rfl ?_
    · exact results_cell_tmp Tryd.results79 _ _ (w.heap.size + 1) _ _ rfl (four_row HZe1.out (.int .i64 q0) (.int .i64 q1) (.string q2) (.slice sR lR cR)) Tryd.underlying28 size_term
    have hbf := four_bel HBe1.out (show w.heap.size ≤ w.heap.size + 1 by omega) (.int .i64 q0) (.int .i64 q1) (.string q2) (.slice sR lR cR)
    rw [HOn.out]
    have hz0 := HZe0.out.lt
    have hgg := HG.out
    refine fold_end (t := tR) (a := sR) (c := cR) HBo.out ?_ hbf (by rw [HR.out.val, HR.out.l])
    rw [HR.out.l]
    exact fold_pass HOw.out (by omega) hz0 (by omega) _ _ _ _
  by_cases hk3 : a.kind = 3
  · obtain ⟨hl2, hz⟩ := HNf.out hk3
    obtain ⟨r, cap, n', f, g, u0, hnn, hv, hrl, hrlo, c0, c1, c2, c3, p1, p2, k4⟩ := HA.out.part (j := 0) (by omega)
    obtain rfl : m = n' := by omega
    clear hnn
    rw [hl2] at hv
    obtain ⟨hsa, hca⟩ : sa = some ⟨r, 0, none⟩ ∧ la = 1 := by cases hv; exact ⟨rfl, rfl⟩
    subst hsa hca
    clear hv
    have hs0 := HKs.out 0 (by omega)
    have HOn := hid (show onceT a = onceNot (a.kids.getD 0 tz) by rw [onceT, if_neg (by omega), if_pos hk3])
    obtain ⟨k0, hk0⟩ : ∃ t, a.kids.getD 0 tz = t := ⟨_, rfl⟩
    rw [hk0] at c0 c1 c2 k4 hs0 HOn
    obtain ⟨z0, z1, z2, lz, hq0⟩ := Pt.of k0
    have HQ0 := hid hq0
    rw [hq0.k] at c0
    rw [hq0.n] at c1
    rw [hq0.s] at c2
    simp only [Nat.zero_mul, Nat.zero_add] at c0 c1 c2 c3
    have hlo := HLo.out
    have hhi := HHi.out
    have hgg := HG.out
    obtain ⟨ob, hob⟩ : ∃ q, onceNot k0 = q := ⟨_, rfl⟩
    have HBi := hid (fun (wx : World) (hb : Below w.heap.size w wx) => (show Calls Tryd.prog 124 #[.agg #[.int .i64 z0, .int .i64 z1, .string z2, u0]] wx (FoldPost m lo G ob wx) from by
      have := simplerNot_c m lo f g G h k0 u0 wx hs0 (k4.on hb) (by omega) (by omega) (by have := hb.size; omega) (HT.out.on hb)
      rw [hob, HQ0.out.val] at this
      exact this))
    rw [hob] at HOn
    have d0 := (HB0.out.cell (p := ⟨r, 0, none⟩) hrl).trans c0
    have d1 := (HB0.out.cell (p := ⟨r, 1, none⟩) hrl).trans c1
    have d2 := (HB0.out.cell (p := ⟨r, 2, none⟩) hrl).trans c2
    have d3 := (HB0.out.cell (p := ⟨r, 3, none⟩) hrl).trans c3
    obtain rfl : x0 = 3 := HP.out.k.symm.trans hk3
    clear hl2 hz c0 c1 c2 c3 p1 p2 k4 hs0 hk0 hq0 hlo hhi hgg hob hk3 hrlo
    go_enter Tryd.func79, Tryd.ntmps79
    go_wp2_with fail
    refine (HBi.out _ HB0.out).mono ?_
    rintro e w1 ⟨tR, sR, cR, rfl, hown, hbx⟩
    have HB1 := hid (HB0.out.trans (hbx.mono HB0.out.size))
    have HZ1 := hid (HZ0.out.on hbx)
    clear hbx d0 d1 d2 d3
    obtain ⟨q0, q1, q2, lR, hr⟩ := Pt.of tR
    rw [hr.val]
    rw [hr.l] at hown ⊢
    have HOw := hid hown
    have HR := hid hr
    clear hown hr
    obtain ⟨bo, hbo⟩ : ∃ q, ob.isSome = q := ⟨_, rfl⟩
    have HBo := hid hbo
    rw [hbo]
    clear hbo
    have r0 := HZ1.out.cell 0
    have r1 := HZ1.out.cell 1
    have r2 := HZ1.out.cell 2
    have r3 := HZ1.out.cell 3
    simp at r0 r1 r2 r3
    have hfr := HZ1.out.free
    go_wp2_with fail
    clear r0 r1 r2 r3 hfr
    refine bodyPost_ret (v := .tuple #[.agg #[.int .i64 q0, .int .i64 q1, .string q2, .slice sR lR cR], .bool bo]) ?_ rfl ?_
    · exact results_cell_tmp Tryd.results79 _ _ (w.heap.size + 1) _ _ rfl (four_row HZ1.out (.int .i64 q0) (.int .i64 q1) (.string q2) (.slice sR lR cR)) Tryd.underlying28 size_term
    rw [HOn.out]
    have hz0 := HZ0.out.lt
    have hgg := HG.out
    refine fold_end (t := tR) (a := sR) (c := cR) HBo.out ?_ (four_bel HB1.out (show w.heap.size ≤ w.heap.size + 1 by omega) _ _ _ _) (by rw [HR.out.val, HR.out.l])
    rw [HR.out.l]
    exact fold_pass (fold_lvl HOw.out) (by omega) hz0 (by have := HB0.out.size; omega) _ _ _ _
  have HOn := hid (show onceT a = none by rw [onceT, if_neg hk2, if_neg hk3])
  have hkk2 : ¬ x0 = 2 := fun e => hk2 (HP.out.k.trans e)
  have hkk3 : ¬ x0 = 3 := fun e => hk3 (HP.out.k.trans e)
  clear hk2 hk3
  go_enter Tryd.func79, Tryd.ntmps79
  go_wp2_with fail
  refine bodyPost_ret (v := .tuple #[.agg #[.int .i64 0, .int .i64 0, .string ⟨#[]⟩, .slice none 0 0], .bool false]) ?_ rfl ?_
  · exact results_cell_tmp Tryd.results79 _ _ (w.heap.size + 1) _ _ rfl HZ0.out Tryd.underlying28 size_term
  · rw [HOn.out]
    exact fold_end (t := tz) (a := none) (c := 0) rfl (fun r hr => by cases hr) HB0.out rfl
end Go.Proofs.YtffibmlgdacafaaDoor.Um
