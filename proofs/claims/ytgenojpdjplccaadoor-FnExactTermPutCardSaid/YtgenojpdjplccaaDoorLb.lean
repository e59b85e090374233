/- The exact law of TermPut: the walk. -/
import Derived.Test.YtgenojpdjplccaaDoorVo
import Derived.Test.YtgenojpdjplccaaDoorVn
import Derived.Deep.RegionHeld3
set_option linter.unusedSimpArgs false
set_option linter.unusedVariables false
namespace Go.Proofs.YtgenojpdjplccaaDoor.Um
open Go.RowKit Pl Ft Mm In C2 Im

theorem termPut_v {s : ByteArray} {a b : Tm} {x0 x1 y0 y1 : Int} {x2 y2 : ByteArray} {la lb : Nat} (hp : Pt a x0 x1 x2 la) (hq : Pt b y0 y1 y2 lb) {z0 z1 : Int} {z2 : ByteArray} {lz : Nat} (hz : Pt (putR a s b) z0 z1 z2 lz) {ok : Bool} (hok : putOk a s b = ok) {n m : Nat} {va vb : Value} {w : World} (ha : KRd w n va a.kids) (hb : KRd w m vb b.kids) (hwa : a.wide ≤ 1048576) (hwb : b.wide ≤ 1048576) (hs : s.size ≤ 1048576) (hT : Tabs w) :
    Calls Tryd.prog 15 #[.agg #[.int .i64 x0, .int .i64 x1, .string x2, va], .string s, .agg #[.int .i64 y0, .int .i64 y1, .string y2, vb]] w fun e w' => ∃ s1 k, e = .returned (.tuple #[.agg #[.int .i64 z0, .int .i64 z1, .string z2, .slice s1 lz k], .bool ok]) ∧ KOwn w' 28 w.heap.size w'.heap.size (.slice s1 lz k) (putR a s b).kids ∧ Below w.heap.size w w' := by
  subst hok
  rw [← hp.val, ← hq.val]
  refine (termPut_c n m a s b va vb w ha hb hwa hwb hs hT).mono ?_
  rintro e w' ⟨v, rfl, hown, hbl⟩
  obtain ⟨s1, k, rfl⟩ := hown.slice
  rw [hz.l] at hown ⊢
  exact ⟨s1, k, by rw [hz.val], hown, hbl⟩
theorem sTermPut_v {s : ByteArray} {a b : Tm} {x0 x1 y0 y1 : Int} {x2 y2 : ByteArray} {la lb : Nat} (hp : Pt a x0 x1 x2 la) (hq : Pt b y0 y1 y2 lb) {z0 z1 : Int} {z2 : ByteArray} {lz : Nat} (hz : Pt (putR a s b) z0 z1 z2 lz) {ok : Bool} (hok : putOk a s b = ok) {n m : Nat} {va vb : Value} {w : World} (ha : KRd w n va a.kids) (hb : KRd w m vb b.kids) (hwa : a.wide ≤ 1048576) (hwb : b.wide ≤ 1048576) (hs : s.size ≤ 1048576) :
    Calls Tryd.prog 18 #[.agg #[.int .i64 x0, .int .i64 x1, .string x2, va], .string s, .agg #[.int .i64 y0, .int .i64 y1, .string y2, vb]] w fun e w' => ∃ s1 k, e = .returned (.tuple #[.agg #[.int .i64 z0, .int .i64 z1, .string z2, .slice s1 lz k], .bool ok]) ∧ KOwn w' (14 + m) w.heap.size w'.heap.size (.slice s1 lz k) (putR a s b).kids ∧ Below w.heap.size w w' := by
  subst hok
  rw [← hp.val, ← hq.val]
  refine (sTermPut_c n m a s b va vb w ha hb hwa hwb hs).mono ?_
  rintro e w' ⟨v, rfl, hown, hbl⟩
  obtain ⟨s1, k, rfl⟩ := hown.slice
  rw [hz.l] at hown ⊢
  exact ⟨s1, k, by rw [hz.val], hown, hbl⟩
theorem put_rwide (a : Tm) (s : ByteArray) (b : Tm) : (putR a s b).wide ≤ 1200 := by
  have h0 : tz.wide = 0 := by rw [wide_eq]; simp [tz, Tm.kids, Tm.text, wides_nil, ByteArray.size]
  unfold putR
  split
  · rename_i h
    unfold putOk at h
    simp only [Bool.and_eq_true] at h
    exact ok_wide h.2.2.2
  · omega
theorem put_rsize (a : Tm) (s : ByteArray) (b : Tm) : (putR a s b).size ≤ 60 := by
  have h0 : tz.size = 1 := by rw [size_eq]; rfl
  unfold putR
  split
  · rename_i h
    unfold putOk at h
    simp only [Bool.and_eq_true] at h
    exact (termOk_bd h.2.2.2).2
  · omega
set_option maxRecDepth 100000 in
set_option maxHeartbeats 8000000 in
theorem exactTermPut_w (n : Nat) (s : ByteArray) (a b : Tm) (va vb : Value) (w : World) (ha : KRd w n va a.kids) (hb : KRd w n vb b.kids) (hla : Lim n a.kids) (hlb : Lim n b.kids) (hta : a.text.size ≤ 9223372036854775807) (htb : b.text.size ≤ 9223372036854775807) (hs : s.size ≤ 9223372036854775807) (hT : Tabs w) :
    Calls Tryd.prog 10 #[tmVal a va, .string s, tmVal b vb] w fun e w' => e = .returned (.bool true) ∧ Below w.heap.size w w' := by
  have HA := hid ha
  have HB := hid hb
  have HLa := hid hla
  have HLb := hid hlb
  have HTa := hid hta
  have HTb := hid htb
  have HT := hid hT
  clear ha hb hla hlb hta htb hT
  obtain ⟨x0, x1, x2, la, hp⟩ := Pt.of a
  obtain ⟨y0, y1, y2, lb, hq⟩ := Pt.of b
  rw [hp.val, hq.val]
  have HP := hid hp
  have HQ := hid hq
  clear hp hq
  have hb1 := (Below.refl w.heap.size w).alloc (Nat.le_refl _) (.cells #[.int .i64 x0, .int .i64 x1, .string x2, va] 54)
  have HB0 := hid (hb1.alloc hb1.size (.cells #[.int .i64 y0, .int .i64 y1, .string y2, vb] 54))
  have HX0 := hid ((Row.new w 54 #[.int .i64 x0, .int .i64 x1, .string x2, va]).alloc (.cells #[.int .i64 y0, .int .i64 y1, .string y2, vb] 54))
  have HY0 := hid (Row.new (w.alloc (.cells #[.int .i64 x0, .int .i64 x1, .string x2, va] 54)) 54 #[.int .i64 y0, .int .i64 y1, .string y2, vb])
  simp only [World.size_alloc] at HY0
  clear hb1
  by_cases hsb : s.size ≤ 1048576
  case neg =>
    go_enter Tryd.func10, Tryd.ntmps10
    go_wp2_with fail
    go_ret
    exact ⟨rfl, HB0.out⟩
  have HSn := hid hsb
  go_enter Tryd.func10, Tryd.ntmps10
  go_wp2_with fail
  refine (szTerm_v HP.out (HA.out.on HB0.out) HLa.out HTa.out (by omega) (by omega)).mono ?_
  rintro e w1 ⟨x, rfl, hx, hb1⟩
  have HB1 := hid (HB0.out.trans (hb1.mono HB0.out.size))
  have HX1 := hid (HX0.out.on hb1)
  have HY1 := hid (HY0.out.on hb1)
  clear hb1
  rcases hx with ⟨hwd, rfl⟩ | ⟨hwd, rfl⟩
  case inr =>
    go_wp2_with fail
    go_ret
    exact ⟨rfl, HB1.out⟩
  have hsub : 0 ≤ (1048576 : Int) - a.wide := by omega
  have hsub2 : (1048576 : Int) - a.wide ≤ 1048576 := by omega
  obtain ⟨z, hz⟩ : ∃ z : Int, (1048576 : Int) - a.wide = z := ⟨_, rfl⟩
  have HZz := hid hz
  rw [hz] at hsub hsub2 ⊢
  clear hz hwd
  have e0 := HY1.out.cell 0
  have e1 := HY1.out.cell 1
  have e2 := HY1.out.cell 2
  have e3 := HY1.out.cell 3
  simp at e0 e1 e2 e3
  go_wp2_with fail
  refine (szTerm_v HQ.out (HB.out.on HB1.out) HLb.out HTb.out (by omega) (by omega)).mono ?_
  rintro e w2 ⟨x, rfl, hx, hb2⟩
  have HB2 := hid (HB1.out.trans (hb2.mono HB1.out.size))
  have HX2 := hid (HX1.out.on hb2)
  have HY2 := hid (HY1.out.on hb2)
  clear hb2 e0 e1 e2 e3
  rcases hx with ⟨hwd, rfl⟩ | ⟨hwd, rfl⟩
  case inr =>
    go_wp2_with fail
    go_ret
    exact ⟨rfl, HB2.out⟩
  have HW := hid (show a.wide + b.wide ≤ 1048576 by have := HZz.out; omega)
  have HWa := hid (show a.wide ≤ 1048576 by have := HW.out; omega)
  have HWb := hid (show b.wide ≤ 1048576 by have := HW.out; omega)
  have hsub3 : 0 ≤ z - b.wide := by omega
  obtain ⟨z3, hz3⟩ : ∃ z3 : Int, z - b.wide = z3 := ⟨_, rfl⟩
  rw [hz3] at hsub3 ⊢
  clear hz3 hwd hsub hsub2
  have HRw := hid (put_rwide a s b)
  have HRz := hid (put_rsize a s b)
  obtain ⟨R, hR⟩ : ∃ r, putR a s b = r := ⟨_, rfl⟩
  obtain ⟨ok, hok⟩ : ∃ r, putOk a s b = r := ⟨_, rfl⟩
  rw [hR] at HRw HRz
  obtain ⟨z0, z1, z2, lz, hpr⟩ := Pt.of R
  have HPr := hid hpr
  have HOk := hid hok
  have HR := hid hR
  clear hpr hR hok
  have HSx := hid (fun (wx : World) (hbx : Below w2.heap.size w2 wx) => (show wx.cell? ⟨w.heap.size, 0, none⟩ = some (.int .i64 x0) ∧ wx.cell? ⟨w.heap.size, 1, none⟩ = some (.int .i64 x1) ∧ wx.cell? ⟨w.heap.size, 2, none⟩ = some (.string x2) ∧ wx.cell? ⟨w.heap.size, 3, none⟩ = some va ∧ wx.cell? ⟨w.heap.size + 1, 0, none⟩ = some (.int .i64 y0) ∧ wx.cell? ⟨w.heap.size + 1, 1, none⟩ = some (.int .i64 y1) ∧ wx.cell? ⟨w.heap.size + 1, 2, none⟩ = some (.string y2) ∧ wx.cell? ⟨w.heap.size + 1, 3, none⟩ = some vb from by
    have c0 := (HX2.out.on hbx).cell 0
    have c1 := (HX2.out.on hbx).cell 1
    have c2 := (HX2.out.on hbx).cell 2
    have c3 := (HX2.out.on hbx).cell 3
    have c4 := (HY2.out.on hbx).cell 0
    have c5 := (HY2.out.on hbx).cell 1
    have c6 := (HY2.out.on hbx).cell 2
    have c7 := (HY2.out.on hbx).cell 3
    exact ⟨c0, c1, c2, c3, c4, c5, c6, c7⟩))
  have HTa := hid (fun (wx : World) (hbx : Below w2.heap.size w2 wx) => toTerm_v HP.out ((HA.out.on HB2.out).on hbx) HWa.out)
  have HTb := hid (fun (wx : World) (hbx : Below w2.heap.size w2 wx) => toTerm_v HQ.out ((HB.out.on HB2.out).on hbx) HWb.out)
  have HBe0 := hid (Below.refl w2.heap.size w2).drew
  have hR := HR.out
  have hok := HOk.out
  have HCs := hid (fun (wx : World) (sa sb : Value) (h1 : KRd wx n sa a.kids) (h2 : KRd wx n sb b.kids) => stb_of (sTermPut_v HP.out HQ.out (hR ▸ HPr.out) hok h1 h2 HWa.out HWb.out HSn.out))
  rw [hR] at HCs
  clear hR hok
  have hx2 := HX2.out.lt
  have hy2 := HY2.out.lt
  go_upto_region 10 with fail
  go_cut [8, 9] (fun v8 v9 wx => ∃ (g : Nat) (s8 : Option Addr) (c8 : Nat), v8 = .pointer (some ⟨g, 0, none⟩) ∧ v9 = .bool ok ∧ w2.heap.size ≤ g ∧ Row wx g 25 #[.int .i64 z0, .int .i64 z1, .string z2, .slice s8 lz c8] ∧ Stb w2 wx (fun x => KRd x (14 + n) (.slice s8 lz c8) R.kids) ∧ Below w2.heap.size w2 wx)
  case first =>
    refine wp_region_held_drew (S := fun w' => w'.cell? ⟨w.heap.size, 0, none⟩ = some (.int .i64 x0) ∧ w'.cell? ⟨w.heap.size, 1, none⟩ = some (.int .i64 x1) ∧ w'.cell? ⟨w.heap.size, 2, none⟩ = some (.string x2) ∧ w'.cell? ⟨w.heap.size, 3, none⟩ = some va ∧ w'.cell? ⟨w.heap.size + 1, 0, none⟩ = some (.int .i64 y0) ∧ w'.cell? ⟨w.heap.size + 1, 1, none⟩ = some (.int .i64 y1) ∧ w'.cell? ⟨w.heap.size + 1, 2, none⟩ = some (.string y2) ∧ w'.cell? ⟨w.heap.size + 1, 3, none⟩ = some vb) (by kernel_rfl) (HSx.out _ HBe0.out) (fun hHeld => ?_)
    refine wpAnyH_take (i := 0) (v := _) rfl (by kernel_rfl) (by kernel_rfl) (by kernel_rfl) (fun _ _ _ h => h) (Or.inl ⟨by rfl, by (intro w hSw; (try dsimp only at hSw); go_simp; first | done | with_reducible rfl)⟩) hHeld ?_
    (try simp only [Act.put, List.setIfInBounds_toArray, List.set_cons_zero, List.set_cons_succ])
    refine wpAnyH_take (i := 2) (v := _) rfl (by kernel_rfl) (by kernel_rfl) (by kernel_rfl) (fun _ _ _ h => h) (Or.inl ⟨by rfl, by (intro w hSw; (try dsimp only at hSw); go_simp; first | done | with_reducible rfl)⟩) hHeld ?_
    (try simp only [Act.put, List.setIfInBounds_toArray, List.set_cons_zero, List.set_cons_succ])
    refine wpAnyH_take (i := 3) (v := _) rfl (by kernel_rfl) (by kernel_rfl) (by kernel_rfl) (fun _ _ _ h => h) (Or.inl ⟨by rfl, by (intro w hSw; (try dsimp only at hSw); go_simp; first | done | with_reducible rfl)⟩) hHeld ?_
    (try simp only [Act.put, List.setIfInBounds_toArray, List.set_cons_zero, List.set_cons_succ])
    generalize w2.drew = wz0 at HBe0 hHeld ⊢
    refine wpAnyH_ready (rs := [1, 9]) (by kernel_rfl) (by simp) ?_
    refine AllReadyH.cons rfl (fun K hK => ?_) ?_
    · go_simp
      go_at_call 30
      refine (HTa.out _ HBe0.out).mono ?_
      rintro e wz1 ⟨sA, cA, rfl, hown, hbx⟩
      simp only
      have HBe1 := hid (HBe0.out.trans (hbx.mono HBe0.out.size))
      have HSz1 := hid hbx.size
      have HO0x1 := hid hown
      refine hK.out _ _ (HSx.out _ HBe1.out) (fun hHeld => ?_)
      clear hK K hown hbx 
      (try simp only [Act.put, List.setIfInBounds_toArray, List.set_cons_zero, List.set_cons_succ])
      refine wpAnyH_ready (rs := [4, 9]) (by kernel_rfl) (by simp) ?_
      refine AllReadyH.cons rfl (fun K hK => ?_) ?_
      · go_simp
        go_at_call 30
        refine (HTb.out _ HBe1.out).mono ?_
        rintro e wz2 ⟨sB, cB, rfl, hown, hbx⟩
        simp only
        have HBe2 := hid (HBe1.out.trans (hbx.mono HBe1.out.size))
        have HSz2 := hid hbx.size
        have HO0x2 := hid (HO0x1.out.on hbx)
        have HO1x2 := hid hown
        refine hK.out _ _ (HSx.out _ HBe2.out) (fun hHeld => ?_)
        clear hK K hown hbx HO0x1
        (try simp only [Act.put, List.setIfInBounds_toArray, List.set_cons_zero, List.set_cons_succ])
        refine wpAnyH_ready (rs := [5, 9]) (by kernel_rfl) (by simp) ?_
        refine AllReadyH.cons rfl (fun K hK => ?_) ?_
        · go_simp
          go_at_call 18
          refine (HCs.out _ _ _ HO0x2.out.rd HO1x2.out.rd).mono ?_
          rintro e wz3 ⟨sC, kC, rfl, hown, hbx⟩
          simp only
          have HBe3 := hid (HBe2.out.trans (hbx.mono HBe2.out.size))
          have HSz3 := hid hbx.size
          have HO0x3 := hid (HO0x2.out.on hbx)
          have HO1x3 := hid (HO1x2.out.on hbx)
          have HSt := hid hown
          have HBk3 := hid (Below.refl wz3.heap.size wz3)
          refine hK.out _ _ (HSx.out _ HBe3.out) (fun hHeld => ?_)
          clear hK K hown hbx HO0x2 HO1x2
          (try simp only [Act.put, List.setIfInBounds_toArray, List.set_cons_zero, List.set_cons_succ])
          refine wpAnyH_take (i := 6) (v := _) rfl (by kernel_rfl) (by kernel_rfl) (by kernel_rfl) (fun _ _ _ h => h) (Or.inl ⟨by rfl, by (intro w hSw; (try dsimp only at hSw); go_simp; first | done | with_reducible rfl)⟩) hHeld ?_
          (try simp only [Act.put, List.setIfInBounds_toArray, List.set_cons_zero, List.set_cons_succ])
          refine wpAnyH_take (i := 7) (v := _) rfl (by kernel_rfl) (by kernel_rfl) (by kernel_rfl) (fun _ _ _ h => h) (Or.inl ⟨by rfl, by (intro w hSw; (try dsimp only at hSw); go_simp; first | done | with_reducible rfl)⟩) hHeld ?_
          (try simp only [Act.put, List.setIfInBounds_toArray, List.set_cons_zero, List.set_cons_succ])
          refine wpAnyH_take (i := 8) (v := _) rfl (by kernel_rfl) (by kernel_rfl) (by kernel_rfl) (fun _ _ _ h => h) (Or.inl ⟨by rfl, by (intro w hSw; (try dsimp only at hSw); go_simp; first | done | with_reducible rfl)⟩) hHeld ?_
          (try simp only [Act.put, List.setIfInBounds_toArray, List.set_cons_zero, List.set_cons_succ])
          refine wpAnyH_ready (rs := [9]) (by kernel_rfl) (by simp) ?_
          refine AllReadyH.cons rfl (fun K hK => ?_) ?_
          · go_simp
            refine hK.out _ _ (HSx.out _ (HBe3.out.alloc HBe3.out.size _)) (fun hHeld => ?_)
            clear hK K
            (try simp only [Act.put, List.setIfInBounds_toArray, List.set_cons_zero, List.set_cons_succ])
            have hal := (Below.refl wz3.heap.size wz3).alloc (Nat.le_refl _) (.cells #[.int .i64 0, .int .i64 0, .string ⟨#[]⟩, .slice none 0 0] 25)
            have HBe4 := hid (HBe3.out.trans (hal.mono HBe3.out.size))
            have HSz4 := hid (show wz3.heap.size < (wz3.alloc (.cells #[.int .i64 0, .int .i64 0, .string ⟨#[]⟩, .slice none 0 0] 25)).heap.size by simp)
            have HO0x4 := hid (HO0x3.out.on hal)
            have HO1x4 := hid (HO1x3.out.on hal)
            have HBk4 := hid (HBk3.out.trans (hal.mono HBk3.out.size))
            have HN4 := hid (Row.new wz3 25 #[.int .i64 0, .int .i64 0, .string ⟨#[]⟩, .slice none 0 0])
            clear hal HO0x3 HO1x3 HBk3
            generalize wz3.alloc (.cells #[.int .i64 0, .int .i64 0, .string ⟨#[]⟩, .slice none 0 0] 25) = wz4 at HBe4 HO0x4 HO1x4 HN4 HBk4 HSz4 hHeld ⊢
            refine wpAnyH_ready (rs := [10]) (by kernel_rfl) (by simp) ?_
            refine AllReadyH.cons rfl (fun K hK => ?_) ?_
            · have n0 := HN4.out.cell 0
              have n1 := HN4.out.cell 1
              have n2 := HN4.out.cell 2
              have n3 := HN4.out.cell 3
              simp at n0 n1 n2 n3
              have hnf := HN4.out.free
              have hnl := HN4.out.lt
              go_simp
              have hgn := HBe3.out.size
              refine hK.out _ _ (HSx.out _ (four_bel HBe4.out hgn _ _ _ _)) (fun hHeld => ?_)
              clear hK K
              (try simp only [Act.put, List.setIfInBounds_toArray, List.set_cons_zero, List.set_cons_succ])
              refine wpAnyH_ready (rs := [11]) (by kernel_rfl) (by simp) ?_
              refine AllReadyH.cons rfl (fun K hK => ?_) AllReadyH.nil
              go_simp
              refine hK.out _ _ hHeld (fun _ => ?_)
              clear hK K
              (try simp only [Act.put, List.setIfInBounds_toArray, List.set_cons_zero, List.set_cons_succ])
              refine wpAnyH_done (by kernel_rfl) ?_ _
              clear n0 n1 n2 n3 hnf hHeld
              go_wp2_with fail
              go_meet
              have hs0 := HBe0.out.size
              have hs1 := HSz1.out
              have hs2 := HSz2.out
              have hs3 := HSz3.out
              have hs4 := HSz4.out
              refine ⟨wz3.heap.size, sC, kC, rfl, rfl, hgn, four_row HN4.out _ _ _ _, fun x hxz hxk => ?_, four_bel HBe4.out hgn _ _ _ _⟩
              rw [four_size] at hxz
              have hbk := HBk4.out.size
              exact HSt.out x (by omega) (fun k h1 h2 => (hxk k (by omega) (by rw [four_size]; omega)).trans ((four_far _ _ _ (by omega) _ _ _ _ _ _ _ _).trans (HBk4.out.block k h2)))
            exact AllReadyH.nil
          exact AllReadyH.nil
        refine AllReadyH.cons rfl (fun K hK => ?_) ?_
        · go_simp
          refine hK.out _ _ (HSx.out _ (HBe2.out.alloc HBe2.out.size _)) (fun hHeld => ?_)
          clear hK K
          (try simp only [Act.put, List.setIfInBounds_toArray, List.set_cons_zero, List.set_cons_succ])
          have hal := (Below.refl wz2.heap.size wz2).alloc (Nat.le_refl _) (.cells #[.int .i64 0, .int .i64 0, .string ⟨#[]⟩, .slice none 0 0] 25)
          have HBe3 := hid (HBe2.out.trans (hal.mono HBe2.out.size))
          have HSz3 := hid (show wz2.heap.size < (wz2.alloc (.cells #[.int .i64 0, .int .i64 0, .string ⟨#[]⟩, .slice none 0 0] 25)).heap.size by simp)
          have HO0x3 := hid (HO0x2.out.on hal)
          have HO1x3 := hid (HO1x2.out.on hal)
          have HN3 := hid (Row.new wz2 25 #[.int .i64 0, .int .i64 0, .string ⟨#[]⟩, .slice none 0 0])
          clear hal HO0x2 HO1x2
          generalize wz2.alloc (.cells #[.int .i64 0, .int .i64 0, .string ⟨#[]⟩, .slice none 0 0] 25) = wz3 at HBe3 HO0x3 HO1x3 HN3 HSz3 hHeld ⊢
          refine wpAnyH_ready (rs := [5]) (by kernel_rfl) (by simp) ?_
          refine AllReadyH.cons rfl (fun K hK => ?_) ?_
          · go_simp
            go_at_call 18
            refine (HCs.out _ _ _ HO0x3.out.rd HO1x3.out.rd).mono ?_
            rintro e wz4 ⟨sC, kC, rfl, hown, hbx⟩
            simp only
            have HBe4 := hid (HBe3.out.trans (hbx.mono HBe3.out.size))
            have HSz4 := hid hbx.size
            have HO0x4 := hid (HO0x3.out.on hbx)
            have HO1x4 := hid (HO1x3.out.on hbx)
            have HN4 := hid (HN3.out.on hbx)
            have HSt := hid hown
            have HBk4 := hid (Below.refl wz4.heap.size wz4)
            refine hK.out _ _ (HSx.out _ HBe4.out) (fun hHeld => ?_)
            clear hK K hown hbx HO0x3 HO1x3 HN3
            (try simp only [Act.put, List.setIfInBounds_toArray, List.set_cons_zero, List.set_cons_succ])
            refine wpAnyH_take (i := 6) (v := _) rfl (by kernel_rfl) (by kernel_rfl) (by kernel_rfl) (fun _ _ _ h => h) (Or.inl ⟨by rfl, by (intro w hSw; (try dsimp only at hSw); go_simp; first | done | with_reducible rfl)⟩) hHeld ?_
            (try simp only [Act.put, List.setIfInBounds_toArray, List.set_cons_zero, List.set_cons_succ])
            refine wpAnyH_take (i := 7) (v := _) rfl (by kernel_rfl) (by kernel_rfl) (by kernel_rfl) (fun _ _ _ h => h) (Or.inl ⟨by rfl, by (intro w hSw; (try dsimp only at hSw); go_simp; first | done | with_reducible rfl)⟩) hHeld ?_
            (try simp only [Act.put, List.setIfInBounds_toArray, List.set_cons_zero, List.set_cons_succ])
            refine wpAnyH_take (i := 8) (v := _) rfl (by kernel_rfl) (by kernel_rfl) (by kernel_rfl) (fun _ _ _ h => h) (Or.inl ⟨by rfl, by (intro w hSw; (try dsimp only at hSw); go_simp; first | done | with_reducible rfl)⟩) hHeld ?_
            (try simp only [Act.put, List.setIfInBounds_toArray, List.set_cons_zero, List.set_cons_succ])
            refine wpAnyH_ready (rs := [10]) (by kernel_rfl) (by simp) ?_
            refine AllReadyH.cons rfl (fun K hK => ?_) ?_
            · have n0 := HN4.out.cell 0
              have n1 := HN4.out.cell 1
              have n2 := HN4.out.cell 2
              have n3 := HN4.out.cell 3
              simp at n0 n1 n2 n3
              have hnf := HN4.out.free
              have hnl := HN4.out.lt
              go_simp
              have hgn := HBe2.out.size
              refine hK.out _ _ (HSx.out _ (four_bel HBe4.out hgn _ _ _ _)) (fun hHeld => ?_)
              clear hK K
              (try simp only [Act.put, List.setIfInBounds_toArray, List.set_cons_zero, List.set_cons_succ])
              refine wpAnyH_ready (rs := [11]) (by kernel_rfl) (by simp) ?_
              refine AllReadyH.cons rfl (fun K hK => ?_) AllReadyH.nil
              go_simp
              refine hK.out _ _ hHeld (fun _ => ?_)
              clear hK K
              (try simp only [Act.put, List.setIfInBounds_toArray, List.set_cons_zero, List.set_cons_succ])
              refine wpAnyH_done (by kernel_rfl) ?_ _
              clear n0 n1 n2 n3 hnf hHeld
              go_wp2_with fail
              go_meet
              have hs0 := HBe0.out.size
              have hs1 := HSz1.out
              have hs2 := HSz2.out
              have hs3 := HSz3.out
              have hs4 := HSz4.out
              refine ⟨wz2.heap.size, sC, kC, rfl, rfl, hgn, four_row HN4.out _ _ _ _, fun x hxz hxk => ?_, four_bel HBe4.out hgn _ _ _ _⟩
              rw [four_size] at hxz
              have hbk := HBk4.out.size
              exact HSt.out x (by omega) (fun k h1 h2 => (hxk k (by omega) (by rw [four_size]; omega)).trans ((four_far _ _ _ (by omega) _ _ _ _ _ _ _ _).trans (HBk4.out.block k h2)))
            exact AllReadyH.nil
          exact AllReadyH.nil
        exact AllReadyH.nil
      refine AllReadyH.cons rfl (fun K hK => ?_) ?_
      · go_simp
        refine hK.out _ _ (HSx.out _ (HBe1.out.alloc HBe1.out.size _)) (fun hHeld => ?_)
        clear hK K
        (try simp only [Act.put, List.setIfInBounds_toArray, List.set_cons_zero, List.set_cons_succ])
        have hal := (Below.refl wz1.heap.size wz1).alloc (Nat.le_refl _) (.cells #[.int .i64 0, .int .i64 0, .string ⟨#[]⟩, .slice none 0 0] 25)
        have HBe2 := hid (HBe1.out.trans (hal.mono HBe1.out.size))
        have HSz2 := hid (show wz1.heap.size < (wz1.alloc (.cells #[.int .i64 0, .int .i64 0, .string ⟨#[]⟩, .slice none 0 0] 25)).heap.size by simp)
        have HO0x2 := hid (HO0x1.out.on hal)
        have HN2 := hid (Row.new wz1 25 #[.int .i64 0, .int .i64 0, .string ⟨#[]⟩, .slice none 0 0])
        clear hal HO0x1
        generalize wz1.alloc (.cells #[.int .i64 0, .int .i64 0, .string ⟨#[]⟩, .slice none 0 0] 25) = wz2 at HBe2 HO0x2 HN2 HSz2 hHeld ⊢
        refine wpAnyH_ready (rs := [4]) (by kernel_rfl) (by simp) ?_
        refine AllReadyH.cons rfl (fun K hK => ?_) ?_
        · go_simp
          go_at_call 30
          refine (HTb.out _ HBe2.out).mono ?_
          rintro e wz3 ⟨sB, cB, rfl, hown, hbx⟩
          simp only
          have HBe3 := hid (HBe2.out.trans (hbx.mono HBe2.out.size))
          have HSz3 := hid hbx.size
          have HO0x3 := hid (HO0x2.out.on hbx)
          have HN3 := hid (HN2.out.on hbx)
          have HO1x3 := hid hown
          refine hK.out _ _ (HSx.out _ HBe3.out) (fun hHeld => ?_)
          clear hK K hown hbx HO0x2 HN2
          (try simp only [Act.put, List.setIfInBounds_toArray, List.set_cons_zero, List.set_cons_succ])
          refine wpAnyH_ready (rs := [5]) (by kernel_rfl) (by simp) ?_
          refine AllReadyH.cons rfl (fun K hK => ?_) ?_
          · go_simp
            go_at_call 18
            refine (HCs.out _ _ _ HO0x3.out.rd HO1x3.out.rd).mono ?_
            rintro e wz4 ⟨sC, kC, rfl, hown, hbx⟩
            simp only
            have HBe4 := hid (HBe3.out.trans (hbx.mono HBe3.out.size))
            have HSz4 := hid hbx.size
            have HO0x4 := hid (HO0x3.out.on hbx)
            have HO1x4 := hid (HO1x3.out.on hbx)
            have HN4 := hid (HN3.out.on hbx)
            have HSt := hid hown
            have HBk4 := hid (Below.refl wz4.heap.size wz4)
            refine hK.out _ _ (HSx.out _ HBe4.out) (fun hHeld => ?_)
            clear hK K hown hbx HO0x3 HO1x3 HN3
            (try simp only [Act.put, List.setIfInBounds_toArray, List.set_cons_zero, List.set_cons_succ])
            refine wpAnyH_take (i := 6) (v := _) rfl (by kernel_rfl) (by kernel_rfl) (by kernel_rfl) (fun _ _ _ h => h) (Or.inl ⟨by rfl, by (intro w hSw; (try dsimp only at hSw); go_simp; first | done | with_reducible rfl)⟩) hHeld ?_
            (try simp only [Act.put, List.setIfInBounds_toArray, List.set_cons_zero, List.set_cons_succ])
            refine wpAnyH_take (i := 7) (v := _) rfl (by kernel_rfl) (by kernel_rfl) (by kernel_rfl) (fun _ _ _ h => h) (Or.inl ⟨by rfl, by (intro w hSw; (try dsimp only at hSw); go_simp; first | done | with_reducible rfl)⟩) hHeld ?_
            (try simp only [Act.put, List.setIfInBounds_toArray, List.set_cons_zero, List.set_cons_succ])
            refine wpAnyH_take (i := 8) (v := _) rfl (by kernel_rfl) (by kernel_rfl) (by kernel_rfl) (fun _ _ _ h => h) (Or.inl ⟨by rfl, by (intro w hSw; (try dsimp only at hSw); go_simp; first | done | with_reducible rfl)⟩) hHeld ?_
            (try simp only [Act.put, List.setIfInBounds_toArray, List.set_cons_zero, List.set_cons_succ])
            refine wpAnyH_ready (rs := [10]) (by kernel_rfl) (by simp) ?_
            refine AllReadyH.cons rfl (fun K hK => ?_) ?_
            · have n0 := HN4.out.cell 0
              have n1 := HN4.out.cell 1
              have n2 := HN4.out.cell 2
              have n3 := HN4.out.cell 3
              simp at n0 n1 n2 n3
              have hnf := HN4.out.free
              have hnl := HN4.out.lt
              go_simp
              have hgn := HBe1.out.size
              refine hK.out _ _ (HSx.out _ (four_bel HBe4.out hgn _ _ _ _)) (fun hHeld => ?_)
              clear hK K
              (try simp only [Act.put, List.setIfInBounds_toArray, List.set_cons_zero, List.set_cons_succ])
              refine wpAnyH_ready (rs := [11]) (by kernel_rfl) (by simp) ?_
              refine AllReadyH.cons rfl (fun K hK => ?_) AllReadyH.nil
              go_simp
              refine hK.out _ _ hHeld (fun _ => ?_)
              clear hK K
              (try simp only [Act.put, List.setIfInBounds_toArray, List.set_cons_zero, List.set_cons_succ])
              refine wpAnyH_done (by kernel_rfl) ?_ _
              clear n0 n1 n2 n3 hnf hHeld
              go_wp2_with fail
              go_meet
              have hs0 := HBe0.out.size
              have hs1 := HSz1.out
              have hs2 := HSz2.out
              have hs3 := HSz3.out
              have hs4 := HSz4.out
              refine ⟨wz1.heap.size, sC, kC, rfl, rfl, hgn, four_row HN4.out _ _ _ _, fun x hxz hxk => ?_, four_bel HBe4.out hgn _ _ _ _⟩
              rw [four_size] at hxz
              have hbk := HBk4.out.size
              exact HSt.out x (by omega) (fun k h1 h2 => (hxk k (by omega) (by rw [four_size]; omega)).trans ((four_far _ _ _ (by omega) _ _ _ _ _ _ _ _).trans (HBk4.out.block k h2)))
            exact AllReadyH.nil
          exact AllReadyH.nil
        exact AllReadyH.nil
      exact AllReadyH.nil
    refine AllReadyH.cons rfl (fun K hK => ?_) ?_
    · go_simp
      refine hK.out _ _ (HSx.out _ (HBe0.out.alloc HBe0.out.size _)) (fun hHeld => ?_)
      clear hK K
      (try simp only [Act.put, List.setIfInBounds_toArray, List.set_cons_zero, List.set_cons_succ])
      have hal := (Below.refl wz0.heap.size wz0).alloc (Nat.le_refl _) (.cells #[.int .i64 0, .int .i64 0, .string ⟨#[]⟩, .slice none 0 0] 25)
      have HBe1 := hid (HBe0.out.trans (hal.mono HBe0.out.size))
      have HSz1 := hid (show wz0.heap.size < (wz0.alloc (.cells #[.int .i64 0, .int .i64 0, .string ⟨#[]⟩, .slice none 0 0] 25)).heap.size by simp)
      have HN1 := hid (Row.new wz0 25 #[.int .i64 0, .int .i64 0, .string ⟨#[]⟩, .slice none 0 0])
      clear hal 
      generalize wz0.alloc (.cells #[.int .i64 0, .int .i64 0, .string ⟨#[]⟩, .slice none 0 0] 25) = wz1 at HBe1 HN1 HSz1 hHeld ⊢
      refine wpAnyH_ready (rs := [1]) (by kernel_rfl) (by simp) ?_
      refine AllReadyH.cons rfl (fun K hK => ?_) ?_
      · go_simp
        go_at_call 30
        refine (HTa.out _ HBe1.out).mono ?_
        rintro e wz2 ⟨sA, cA, rfl, hown, hbx⟩
        simp only
        have HBe2 := hid (HBe1.out.trans (hbx.mono HBe1.out.size))
        have HSz2 := hid hbx.size
        have HN2 := hid (HN1.out.on hbx)
        have HO0x2 := hid hown
        refine hK.out _ _ (HSx.out _ HBe2.out) (fun hHeld => ?_)
        clear hK K hown hbx HN1
        (try simp only [Act.put, List.setIfInBounds_toArray, List.set_cons_zero, List.set_cons_succ])
        refine wpAnyH_ready (rs := [4]) (by kernel_rfl) (by simp) ?_
        refine AllReadyH.cons rfl (fun K hK => ?_) ?_
        · go_simp
          go_at_call 30
          refine (HTb.out _ HBe2.out).mono ?_
          rintro e wz3 ⟨sB, cB, rfl, hown, hbx⟩
          simp only
          have HBe3 := hid (HBe2.out.trans (hbx.mono HBe2.out.size))
          have HSz3 := hid hbx.size
          have HO0x3 := hid (HO0x2.out.on hbx)
          have HN3 := hid (HN2.out.on hbx)
          have HO1x3 := hid hown
          refine hK.out _ _ (HSx.out _ HBe3.out) (fun hHeld => ?_)
          clear hK K hown hbx HO0x2 HN2
          (try simp only [Act.put, List.setIfInBounds_toArray, List.set_cons_zero, List.set_cons_succ])
          refine wpAnyH_ready (rs := [5]) (by kernel_rfl) (by simp) ?_
          refine AllReadyH.cons rfl (fun K hK => ?_) ?_
          · go_simp
            go_at_call 18
            refine (HCs.out _ _ _ HO0x3.out.rd HO1x3.out.rd).mono ?_
            rintro e wz4 ⟨sC, kC, rfl, hown, hbx⟩
            simp only
            have HBe4 := hid (HBe3.out.trans (hbx.mono HBe3.out.size))
            have HSz4 := hid hbx.size
            have HO0x4 := hid (HO0x3.out.on hbx)
            have HO1x4 := hid (HO1x3.out.on hbx)
            have HN4 := hid (HN3.out.on hbx)
            have HSt := hid hown
            have HBk4 := hid (Below.refl wz4.heap.size wz4)
            refine hK.out _ _ (HSx.out _ HBe4.out) (fun hHeld => ?_)
            clear hK K hown hbx HO0x3 HO1x3 HN3
            (try simp only [Act.put, List.setIfInBounds_toArray, List.set_cons_zero, List.set_cons_succ])
            refine wpAnyH_take (i := 6) (v := _) rfl (by kernel_rfl) (by kernel_rfl) (by kernel_rfl) (fun _ _ _ h => h) (Or.inl ⟨by rfl, by (intro w hSw; (try dsimp only at hSw); go_simp; first | done | with_reducible rfl)⟩) hHeld ?_
            (try simp only [Act.put, List.setIfInBounds_toArray, List.set_cons_zero, List.set_cons_succ])
            refine wpAnyH_take (i := 7) (v := _) rfl (by kernel_rfl) (by kernel_rfl) (by kernel_rfl) (fun _ _ _ h => h) (Or.inl ⟨by rfl, by (intro w hSw; (try dsimp only at hSw); go_simp; first | done | with_reducible rfl)⟩) hHeld ?_
            (try simp only [Act.put, List.setIfInBounds_toArray, List.set_cons_zero, List.set_cons_succ])
            refine wpAnyH_take (i := 8) (v := _) rfl (by kernel_rfl) (by kernel_rfl) (by kernel_rfl) (fun _ _ _ h => h) (Or.inl ⟨by rfl, by (intro w hSw; (try dsimp only at hSw); go_simp; first | done | with_reducible rfl)⟩) hHeld ?_
            (try simp only [Act.put, List.setIfInBounds_toArray, List.set_cons_zero, List.set_cons_succ])
            refine wpAnyH_ready (rs := [10]) (by kernel_rfl) (by simp) ?_
            refine AllReadyH.cons rfl (fun K hK => ?_) ?_
            · have n0 := HN4.out.cell 0
              have n1 := HN4.out.cell 1
              have n2 := HN4.out.cell 2
              have n3 := HN4.out.cell 3
              simp at n0 n1 n2 n3
              have hnf := HN4.out.free
              have hnl := HN4.out.lt
              go_simp
              have hgn := HBe0.out.size
              refine hK.out _ _ (HSx.out _ (four_bel HBe4.out hgn _ _ _ _)) (fun hHeld => ?_)
              clear hK K
              (try simp only [Act.put, List.setIfInBounds_toArray, List.set_cons_zero, List.set_cons_succ])
              refine wpAnyH_ready (rs := [11]) (by kernel_rfl) (by simp) ?_
              refine AllReadyH.cons rfl (fun K hK => ?_) AllReadyH.nil
              go_simp
              refine hK.out _ _ hHeld (fun _ => ?_)
              clear hK K
              (try simp only [Act.put, List.setIfInBounds_toArray, List.set_cons_zero, List.set_cons_succ])
              refine wpAnyH_done (by kernel_rfl) ?_ _
              clear n0 n1 n2 n3 hnf hHeld
              go_wp2_with fail
              go_meet
              have hs0 := HBe0.out.size
              have hs1 := HSz1.out
              have hs2 := HSz2.out
              have hs3 := HSz3.out
              have hs4 := HSz4.out
              refine ⟨wz0.heap.size, sC, kC, rfl, rfl, hgn, four_row HN4.out _ _ _ _, fun x hxz hxk => ?_, four_bel HBe4.out hgn _ _ _ _⟩
              rw [four_size] at hxz
              have hbk := HBk4.out.size
              exact HSt.out x (by omega) (fun k h1 h2 => (hxk k (by omega) (by rw [four_size]; omega)).trans ((four_far _ _ _ (by omega) _ _ _ _ _ _ _ _).trans (HBk4.out.block k h2)))
            exact AllReadyH.nil
          exact AllReadyH.nil
        exact AllReadyH.nil
      exact AllReadyH.nil
    exact AllReadyH.nil
  case rest =>
    obtain ⟨g, s8, c8, rfl, rfl, hg2, hrg, hst, hb3⟩ := hcut
    generalize wc = w3 at hrg hst hb3 ⊢
    have HG := hid hrg
    have HKd := hid hst
    have HB3 := hid (HB2.out.trans (hb3.mono HB2.out.size))
    have HX3 := hid (HX2.out.on hb3)
    have HY3 := hid (HY2.out.on hb3)
    have hgl := hrg.lt
    clear hrg hst hb3 hg2 HSx HTa HTb HBe0 HCs
    have d0 := HX3.out.cell 0
    have d1 := HX3.out.cell 1
    have d2 := HX3.out.cell 2
    have d3 := HX3.out.cell 3
    simp at d0 d1 d2 d3
    go_wp2_with fail
    refine (toTerm_v HP.out (HA.out.on HB3.out) HWa.out).mono ?_
    rintro e w4 ⟨a4, c4, rfl, hown4, hb4⟩
    have HO1 := hid hown4
    have HP4 := hid hb4
    have HB4 := hid (HB3.out.trans (hb4.mono HB3.out.size))
    have HX4 := hid (HX3.out.on hb4)
    have HY4 := hid (HY3.out.on hb4)
    have hx4 := HX4.out.lt
    have hy4 := HY4.out.lt
    clear hown4 hb4 d0 d1 d2 d3
    have e0 := HY4.out.cell 0
    have e1 := HY4.out.cell 1
    have e2 := HY4.out.cell 2
    have e3 := HY4.out.cell 3
    simp at e0 e1 e2 e3
    have HA5 := hid ((Below.refl w4.heap.size w4).alloc (Nat.le_refl _) (.cells #[.int .i64 x0, .int .i64 x1, .string x2, .slice a4 la c4] 25))
    have HB5 := hid (HB4.out.trans (HA5.out.mono HB4.out.size))
    have HP5 := hid (HP4.out.trans (HA5.out.mono HP4.out.size))
    have HG5 := hid (Row.new w4 25 #[.int .i64 x0, .int .i64 x1, .string x2, .slice a4 la c4])
    have HO15 := hid (HO1.out.on HA5.out)
    go_wp2_with fail
    refine (toTerm_v HQ.out (HB.out.on HB5.out) HWb.out).mono ?_
    rintro e w6 ⟨a6, c6, rfl, hown6, hb6⟩
    have HO2 := hid hown6
    have HO16 := hid (HO15.out.on hb6)
    have HG6 := hid (HG5.out.on hb6)
    have HP6 := hid (HP5.out.trans (hb6.mono HP5.out.size))
    have HB6 := hid (HB5.out.trans (hb6.mono HB5.out.size))
    have HZ6 := hid hb6.size
    have hg6 := HG6.out.lt
    clear hown6 hb6 e0 e1 e2 e3
    have g0 := HG6.out.cell 0
    have g1 := HG6.out.cell 1
    have g2 := HG6.out.cell 2
    have g3 := HG6.out.cell 3
    simp at g0 g1 g2 g3
    have HA7 := hid ((Below.refl w6.heap.size w6).alloc (Nat.le_refl _) (.cells #[.int .i64 y0, .int .i64 y1, .string y2, .slice a6 lb c6] 25))
    have HB7 := hid (HB6.out.trans (HA7.out.mono HB6.out.size))
    have HP7 := hid (HP6.out.trans (HA7.out.mono HP6.out.size))
    have HH7 := hid (Row.new w6 25 #[.int .i64 y0, .int .i64 y1, .string y2, .slice a6 lb c6])
    have HG7 := hid (HG6.out.on HA7.out)
    have HO17 := hid (HO16.out.on HA7.out)
    have HO27 := hid (HO2.out.on HA7.out)
    have hR := HR.out
    have HCi := hid (fun (wx : World) (n1 : Nat) (sa sb : Value) (h1 : KRd wx n1 sa a.kids) (h2 : KRd wx n1 sb b.kids) (h3 : Tabs wx) => termPut_v HP.out HQ.out (hR ▸ HPr.out) HOk.out h1 h2 HWa.out HWb.out HSn.out h3)
    rw [hR] at HCi
    clear hR
    go_wp2_with fail
    refine (HCi.out _ _ _ _ HO17.out.rd HO27.out.rd (HT.out.on HB7.out)).mono ?_
    rintro e w8 ⟨s9, c9, rfl, hown8, hb8⟩
    have HO3 := hid hown8
    have HO18 := hid (HO17.out.on hb8)
    have HO28 := hid (HO27.out.on hb8)
    have HG8 := hid (HG7.out.on hb8)
    have HH8 := hid (HH7.out.on hb8)
    have HP8 := hid (HP7.out.trans (hb8.mono HP7.out.size))
    have HB8 := hid (HB7.out.trans (hb8.mono HB7.out.size))
    have HZ8 := hid hb8.size
    have HGw8 := hid ((HG.out.below HP8.out HG.out.lt))
    have hgw8 := HGw8.out.lt
    clear hown8 hb8 g0 g1 g2 g3
    have HA9 := hid ((Below.refl w8.heap.size w8).alloc (Nat.le_refl _) (.cells #[.int .i64 z0, .int .i64 z1, .string z2, .slice s9 lz c9] 25))
    have HB9 := hid (HB8.out.trans (HA9.out.mono HB8.out.size))
    have HP9 := hid (HP8.out.trans (HA9.out.mono HP8.out.size))
    have HI9 := hid (Row.new w8 25 #[.int .i64 z0, .int .i64 z1, .string z2, .slice s9 lz c9])
    have HG9 := hid (HG8.out.on HA9.out)
    have HH9 := hid (HH8.out.on HA9.out)
    have HO19 := hid (HO18.out.on HA9.out)
    have HO29 := hid (HO28.out.on HA9.out)
    have HO39 := hid (HO3.out.on HA9.out)
    have v0 := HGw8.out.cell 0
    have v1 := HGw8.out.cell 1
    have v2 := HGw8.out.cell 2
    have v3 := HGw8.out.cell 3
    simp at v0 v1 v2 v3
    go_wp2_with fail
    refine (eqTerm_v HPr.out (n := n + 30) (HO39.out.rd.mono (by omega)) ((HKd.out.on HP9.out).mono (by omega)) (by have := HRw.out; omega)).mono ?_
    rintro e w10 ⟨rfl, hba⟩
    have HIa := hid (HI9.out.on hba)
    have HGa := hid (HG9.out.on hba)
    have HHa := hid (HH9.out.on hba)
    have HO1a := hid (HO19.out.on hba)
    have HO2a := hid (HO29.out.on hba)
    have HO3a := hid (HO39.out.on hba)
    have HBa := hid (HB9.out.trans (hba.mono HB9.out.size))
    have HPa := hid (HP9.out.trans (hba.mono HP9.out.size))
    have HZa := hid hba.size
    clear hba v0 v1 v2 v3
    have HXa := hid (HX3.out.below HPa.out HX3.out.lt)
    have HYa := hid (HY3.out.below HPa.out HY3.out.lt)
    have d0 := HXa.out.cell 0
    have d1 := HXa.out.cell 1
    have d2 := HXa.out.cell 2
    have d3 := HXa.out.cell 3
    have g0 := HGa.out.cell 0
    have g1 := HGa.out.cell 1
    have g2 := HGa.out.cell 2
    have g3 := HGa.out.cell 3
    simp at d0 d1 d2 d3 g0 g1 g2 g3
    have hga := HGa.out.lt
    have hxa := HXa.out.lt
    have hya := HYa.out.lt
    have hha := HHa.out.lt
    go_upto_region 16 with fail
    go_cut [65] (fun s wx => s = .bool false ∧ Below w10.heap.size w10 wx)
    case first =>
      go_region_with (first
        | (go_at_call 30; refine (toTerm_v HP.out (HA.out.on HBa.out.drew) HWa.out).mono ?_; rintro e wd ⟨ad, cd, rfl, hownd, hbd⟩; have HOd := hid hownd; have HBd := hid hbd; have HYd := hid (HGa.out.drew.on hbd); have k0 := HYd.out.cell 0; have k1 := HYd.out.cell 1; have k2 := HYd.out.cell 2; have k3 := HYd.out.cell 3; simp at k0 k1 k2 k3; clear hownd hbd)
        | (go_at_call 32; refine (eqTerm_v HP.out (HO1a.out.on ((Below.refl _ _).drew.trans HBd.out)).rd HOd.out.rd HWa.out).mono ?_; rintro e we ⟨rfl, hbe⟩))
      all_goals
        have HBe := hid (((Below.refl w10.heap.size w10).drew.trans HBd.out).trans (hbe.mono ((Below.refl w10.heap.size w10).drew.trans HBd.out).size))
        clear hbe
        go_wp2_with fail
        go_meet
        exact ⟨rfl, HBe.out⟩
    case rest =>
    obtain ⟨rfl, hbb⟩ := hcut
    generalize wc = w11 at hbb ⊢
    have HIb := hid (HIa.out.on hbb)
    have HGb := hid (HGa.out.on hbb)
    have HHb := hid (HHa.out.on hbb)
    have HO1b := hid (HO1a.out.on hbb)
    have HO2b := hid (HO2a.out.on hbb)
    have HO3b := hid (HO3a.out.on hbb)
    have HBb := hid (HBa.out.trans (hbb.mono HBa.out.size))
    have HPb := hid (HPa.out.trans (hbb.mono HPa.out.size))
    have HZb := hid hbb.size
    clear hbb d0 d1 d2 d3 g0 g1 g2 g3 hga hxa hya hha
    have HYb := hid (HY3.out.below HPb.out HY3.out.lt)
    have e0 := HYb.out.cell 0
    have e1 := HYb.out.cell 1
    have e2 := HYb.out.cell 2
    have e3 := HYb.out.cell 3
    have h0 := HHb.out.cell 0
    have h1 := HHb.out.cell 1
    have h2 := HHb.out.cell 2
    have h3 := HHb.out.cell 3
    simp at e0 e1 e2 e3 h0 h1 h2 h3
    have hyb := HYb.out.lt
    have hhb := HHb.out.lt
    go_upto_region 18 with fail
    go_cut [70] (fun s wx => s = .bool false ∧ Below w11.heap.size w11 wx)
    case first =>
      go_region_with (first
        | (go_at_call 30; refine (toTerm_v HQ.out (HB.out.on HBb.out.drew) HWb.out).mono ?_; rintro e wd ⟨ad, cd, rfl, hownd, hbd⟩; have HOd := hid hownd; have HBd := hid hbd; have HYd := hid (HHb.out.drew.on hbd); have k0 := HYd.out.cell 0; have k1 := HYd.out.cell 1; have k2 := HYd.out.cell 2; have k3 := HYd.out.cell 3; simp at k0 k1 k2 k3; clear hownd hbd)
        | (go_at_call 32; refine (eqTerm_v HQ.out (HO2b.out.on ((Below.refl _ _).drew.trans HBd.out)).rd HOd.out.rd HWb.out).mono ?_; rintro e we ⟨rfl, hbe⟩))
      all_goals
        have HBe := hid (((Below.refl w11.heap.size w11).drew.trans HBd.out).trans (hbe.mono ((Below.refl w11.heap.size w11).drew.trans HBd.out).size))
        clear hbe
        go_wp2_with fail
        go_meet
        exact ⟨rfl, HBe.out⟩
    case rest =>
    obtain ⟨rfl, hbc⟩ := hcut
    generalize wc = w12 at hbc ⊢
    have HIc := hid (HIb.out.on hbc)
    have HGc := hid (HGb.out.on hbc)
    have HHc := hid (HHb.out.on hbc)
    have HO1c := hid (HO1b.out.on hbc)
    have HO2c := hid (HO2b.out.on hbc)
    have HO3c := hid (HO3b.out.on hbc)
    have HBc := hid (HBb.out.trans (hbc.mono HBb.out.size))
    have HPc := hid (HPb.out.trans (hbc.mono HPb.out.size))
    have HZc := hid hbc.size
    clear hbc e0 e1 e2 e3 h0 h1 h2 h3 hyb hhb
    have g0 := HGc.out.cell 0
    have g1 := HGc.out.cell 1
    have g2 := HGc.out.cell 2
    have g3 := HGc.out.cell 3
    simp at g0 g1 g2 g3
    have HSza := hid (show a.size ≤ 1048577 by have := size_wide a; have := HWa.out; omega)
    have HSzb := hid (show b.size ≤ 1048577 by have := size_wide b; have := HWb.out; omega)
    have HN := hid (show w3.heap.size ≤ w4.heap.size ∧ w4.heap.size + 1 ≤ w6.heap.size ∧ w6.heap.size + 1 ≤ w8.heap.size ∧ w8.heap.size + 1 ≤ w12.heap.size by
      have h1 := HP4.out.size
      have h2 := HZ6.out
      have h3 := HZ8.out
      have h4 := HZa.out
      have h5 := HZb.out
      have h6 := HZc.out
      simp only [World.size_alloc] at h2 h3 h4
      omega)
    go_wp2_with fail
    refine (markTerm_v HP.out HO1c.out (by have := HN.out; omega) (by omega) (by have := HSza.out; omega) HWa.out (k := 1)).mono ?_
    rintro e w13 ⟨ks9, k9, rfl, hk1, hk2, _, _, _, hon⟩
    have HId := hid (row_only HIc.out (fun h => by have := HN.out; omega) hon)
    have HHd := hid (row_only HHc.out (fun h => by have := HN.out; omega) hon)
    have HO2d := hid (HO2c.out.only hon (fun b h1 h2 h3 => by have := HN.out; simp only [World.size_alloc] at h1; omega))
    have HO3d := hid (HO3c.out.only hon (fun b h1 h2 h3 => by have := HN.out; simp only [World.size_alloc] at h1; omega))
    have HBd := hid (HBc.out.trans (hon.below HBc.out.size (fun b hb => by have := HB3.out.size; omega)))
    have HPd := hid (HPc.out.trans (hon.below HPc.out.size (fun b hb => hb.1)))
    have HZd := hid hon.size
    have HK9 := hid (show k9 ≤ 1 + 3 * 1048577 by have := size_eq a; have := HSza.out; omega)
    have hk9 : 0 < k9 := by omega
    clear hon g0 g1 g2 g3 hk1 hk2
    have h0 := HHd.out.cell 0
    have h1 := HHd.out.cell 1
    have h2 := HHd.out.cell 2
    have h3 := HHd.out.cell 3
    simp at h0 h1 h2 h3
    go_wp2_with fail
    refine (markTerm_v HQ.out HO2d.out (by have := HN.out; have := HZd.out; omega) hk9 (by have := HSzb.out; have := HK9.out; omega) HWb.out).mono ?_
    rintro e w14 ⟨ks9, k10, rfl, hk1, hk2, _, _, _, hon⟩
    have HIe := hid (row_only HId.out (fun h => by have := HN.out; omega) hon)
    have HO3e := hid (HO3d.out.only hon (fun b h1 h2 h3 => by have := HN.out; simp only [World.size_alloc] at h1; omega))
    have HBe := hid (HBd.out.trans (hon.below HBd.out.size (fun b hb => by have := HB3.out.size; have := HN.out; have h1 := hb.1; simp only [World.size_alloc] at h1; omega)))
    have HPe := hid (HPd.out.trans (hon.below HPd.out.size (fun b hb => by have := HN.out; have h1 := hb.1; simp only [World.size_alloc] at h1; omega)))
    have HZe := hid hon.size
    have hk10 : 0 ≤ (k10 : Int) := by omega
    have HGwe := hid (HG.out.below HPe.out HG.out.lt)
    clear hon h0 h1 h2 h3 hk1 hk2
    have i0 := HIe.out.cell 0
    have i1 := HIe.out.cell 1
    have i2 := HIe.out.cell 2
    have i3 := HIe.out.cell 3
    have v0 := HGwe.out.cell 0
    have v1 := HGwe.out.cell 1
    have v2 := HGwe.out.cell 2
    have v3 := HGwe.out.cell 3
    simp at i0 i1 i2 i3 v0 v1 v2 v3
    go_wp2_with fail
    refine (eqTerm_v HPr.out (n := n + 30) (HO3e.out.rd.mono (by omega)) ((HKd.out.on HPe.out).mono (by omega)) (by have := HRw.out; omega)).mono ?_
    rintro e w15 ⟨rfl, hbf⟩
    have HIf := hid (HIe.out.on hbf)
    have HO3f := hid (HO3e.out.on hbf)
    have HBf := hid (HBe.out.trans (hbf.mono HBe.out.size))
    have HPf := hid (HPe.out.trans (hbf.mono HPe.out.size))
    have HZf := hid hbf.size
    clear hbf i0 i1 i2 i3 v0 v1 v2 v3
    have i0 := HIf.out.cell 0
    have i1 := HIf.out.cell 1
    have i2 := HIf.out.cell 2
    have i3 := HIf.out.cell 3
    simp at i0 i1 i2 i3
    go_wp2_with fail
    refine (markTerm_v HPr.out HO3f.out (by have := HN.out; have := HZd.out; have := HZe.out; have := HZf.out; omega) (by omega) (by have := HRz.out; omega) (by have := HRw.out; omega) (k := 1)).mono ?_
    rintro e w16 ⟨ks, m, rfl, hm1, hm2, hml, hmk, howng, hon⟩
    have HIg := hid (row_only HIf.out (fun h => by omega) hon)
    have HMk := hid hmk
    have HOg := hid howng
    have HBg := hid (HBf.out.trans (hon.below HBf.out.size (fun b hb => by have := HB3.out.size; have := HN.out; have h1 := hb.1; simp only [World.size_alloc] at h1; omega)))
    have HPg := hid (HPf.out.trans (hon.below HPf.out.size (fun b hb => by have := HN.out; have h1 := hb.1; simp only [World.size_alloc] at h1; omega)))
    have HMm := hid (show m ≤ 10000 by have := size_eq R; have := HRz.out; omega)
    have hm0 : 0 < (m : Int) := by omega
    clear hon hmk howng i0 i1 i2 i3 hm1 hm2 hml
    have i0 := HIg.out.cell 0
    have i1 := HIg.out.cell 1
    have i2 := HIg.out.cell 2
    have i3 := HIg.out.cell 3
    simp at i0 i1 i2 i3
    go_wp2_with fail
    refine (heldTerm_v (n := 28) (lk := 0) (t := .mk z0 z1 z2 []) ⟨rfl, rfl, rfl, rfl⟩ HOg.out.rd HMk.out (by omega) (by have := HMm.out; omega) (k := 1)).mono ?_
    rintro e w17 ⟨rfl, hbh⟩
    have HIh := hid (HIg.out.on hbh)
    have HOh := hid (HOg.out.on hbh)
    have HBh := hid (HBg.out.trans (hbh.mono HBg.out.size))
    have HPh := hid (HPg.out.trans (hbh.mono HPg.out.size))
    have HXh := hid (HX3.out.below HPh.out HX3.out.lt)
    have HYh := hid (HY3.out.below HPh.out HY3.out.lt)
    clear hbh i0 i1 i2 i3
    have HSx := hid (fun (wx : World) (hbx : Below w17.heap.size w17 wx) => (show wx.cell? ⟨w.heap.size, 0, none⟩ = some (.int .i64 x0) ∧ wx.cell? ⟨w.heap.size, 1, none⟩ = some (.int .i64 x1) ∧ wx.cell? ⟨w.heap.size, 2, none⟩ = some (.string x2) ∧ wx.cell? ⟨w.heap.size, 3, none⟩ = some va ∧ wx.cell? ⟨w.heap.size + 1, 0, none⟩ = some (.int .i64 y0) ∧ wx.cell? ⟨w.heap.size + 1, 1, none⟩ = some (.int .i64 y1) ∧ wx.cell? ⟨w.heap.size + 1, 2, none⟩ = some (.string y2) ∧ wx.cell? ⟨w.heap.size + 1, 3, none⟩ = some vb from by
      have c0 := (HXh.out.on hbx).cell 0
      have c1 := (HXh.out.on hbx).cell 1
      have c2 := (HXh.out.on hbx).cell 2
      have c3 := (HXh.out.on hbx).cell 3
      have c4 := (HYh.out.on hbx).cell 0
      have c5 := (HYh.out.on hbx).cell 1
      have c6 := (HYh.out.on hbx).cell 2
      have c7 := (HYh.out.on hbx).cell 3
      exact ⟨c0, c1, c2, c3, c4, c5, c6, c7⟩))
    have HTa := hid (fun (wx : World) (hbx : Below w17.heap.size w17 wx) => toTerm_v HP.out ((HA.out.on HBh.out).on hbx) HWa.out)
    have HTb := hid (fun (wx : World) (hbx : Below w17.heap.size w17 wx) => toTerm_v HQ.out ((HB.out.on HBh.out).on hbx) HWb.out)
    have HBe0 := hid (Below.refl w17.heap.size w17).drew
    have HCs := hid (fun (wx : World) (n1 : Nat) (sa sb : Value) (h1 : KRd wx n1 sa a.kids) (h2 : KRd wx n1 sb b.kids) (h3 : Tabs wx) => stb_of (HCi.out wx n1 sa sb h1 h2 h3))
    have HTw := hid (fun (wx : World) (hbx : Below w17.heap.size w17 wx) => HT.out.on (HBh.out.trans (hbx.mono HBh.out.size)))
    have hxh := HXh.out.lt
    have hyh := HYh.out.lt
    go_upto_region 33 with fail
    go_cut [17, 18] (fun v8 v9 wx => ∃ (g : Nat) (s8 : Option Addr) (c8 : Nat), v8 = .pointer (some ⟨g, 0, none⟩) ∧ v9 = .bool ok ∧ w17.heap.size ≤ g ∧ Row wx g 25 #[.int .i64 z0, .int .i64 z1, .string z2, .slice s8 lz c8] ∧ Stb w17 wx (fun x => KRd x 28 (.slice s8 lz c8) R.kids) ∧ Below w17.heap.size w17 wx)
    case first =>
      refine wp_region_held_drew (S := fun w' => w'.cell? ⟨w.heap.size, 0, none⟩ = some (.int .i64 x0) ∧ w'.cell? ⟨w.heap.size, 1, none⟩ = some (.int .i64 x1) ∧ w'.cell? ⟨w.heap.size, 2, none⟩ = some (.string x2) ∧ w'.cell? ⟨w.heap.size, 3, none⟩ = some va ∧ w'.cell? ⟨w.heap.size + 1, 0, none⟩ = some (.int .i64 y0) ∧ w'.cell? ⟨w.heap.size + 1, 1, none⟩ = some (.int .i64 y1) ∧ w'.cell? ⟨w.heap.size + 1, 2, none⟩ = some (.string y2) ∧ w'.cell? ⟨w.heap.size + 1, 3, none⟩ = some vb) (by kernel_rfl) (HSx.out _ HBe0.out) (fun hHeld => ?_)
      refine wpAnyH_take (i := 0) (v := _) rfl (by kernel_rfl) (by kernel_rfl) (by kernel_rfl) (fun _ _ _ h => h) (Or.inl ⟨by rfl, by (intro w hSw; (try dsimp only at hSw); go_simp; first | done | with_reducible rfl)⟩) hHeld ?_
      (try simp only [Act.put, List.setIfInBounds_toArray, List.set_cons_zero, List.set_cons_succ])
      refine wpAnyH_take (i := 2) (v := _) rfl (by kernel_rfl) (by kernel_rfl) (by kernel_rfl) (fun _ _ _ h => h) (Or.inl ⟨by rfl, by (intro w hSw; (try dsimp only at hSw); go_simp; first | done | with_reducible rfl)⟩) hHeld ?_
      (try simp only [Act.put, List.setIfInBounds_toArray, List.set_cons_zero, List.set_cons_succ])
      refine wpAnyH_take (i := 3) (v := _) rfl (by kernel_rfl) (by kernel_rfl) (by kernel_rfl) (fun _ _ _ h => h) (Or.inl ⟨by rfl, by (intro w hSw; (try dsimp only at hSw); go_simp; first | done | with_reducible rfl)⟩) hHeld ?_
      (try simp only [Act.put, List.setIfInBounds_toArray, List.set_cons_zero, List.set_cons_succ])
      generalize w17.drew = wz0 at HBe0 hHeld ⊢
      refine wpAnyH_ready (rs := [1, 9]) (by kernel_rfl) (by simp) ?_
      refine AllReadyH.cons rfl (fun K hK => ?_) ?_
      · go_simp
        go_at_call 30
        refine (HTa.out _ HBe0.out).mono ?_
        rintro e wz1 ⟨sA, cA, rfl, hown, hbx⟩
        simp only
        have HBe1 := hid (HBe0.out.trans (hbx.mono HBe0.out.size))
        have HSz1 := hid hbx.size
        have HO0x1 := hid hown
        refine hK.out _ _ (HSx.out _ HBe1.out) (fun hHeld => ?_)
        clear hK K hown hbx 
        (try simp only [Act.put, List.setIfInBounds_toArray, List.set_cons_zero, List.set_cons_succ])
        refine wpAnyH_ready (rs := [4, 9]) (by kernel_rfl) (by simp) ?_
        refine AllReadyH.cons rfl (fun K hK => ?_) ?_
        · go_simp
          go_at_call 30
          refine (HTb.out _ HBe1.out).mono ?_
          rintro e wz2 ⟨sB, cB, rfl, hown, hbx⟩
          simp only
          have HBe2 := hid (HBe1.out.trans (hbx.mono HBe1.out.size))
          have HSz2 := hid hbx.size
          have HO0x2 := hid (HO0x1.out.on hbx)
          have HO1x2 := hid hown
          refine hK.out _ _ (HSx.out _ HBe2.out) (fun hHeld => ?_)
          clear hK K hown hbx HO0x1
          (try simp only [Act.put, List.setIfInBounds_toArray, List.set_cons_zero, List.set_cons_succ])
          refine wpAnyH_ready (rs := [5, 9]) (by kernel_rfl) (by simp) ?_
          refine AllReadyH.cons rfl (fun K hK => ?_) ?_
          · go_simp
            go_at_call 15
            refine (HCs.out _ _ _ _ HO0x2.out.rd HO1x2.out.rd (HTw.out _ HBe2.out)).mono ?_
            rintro e wz3 ⟨sC, kC, rfl, hown, hbx⟩
            simp only
            have HBe3 := hid (HBe2.out.trans (hbx.mono HBe2.out.size))
            have HSz3 := hid hbx.size
            have HO0x3 := hid (HO0x2.out.on hbx)
            have HO1x3 := hid (HO1x2.out.on hbx)
            have HSt := hid hown
            have HBk3 := hid (Below.refl wz3.heap.size wz3)
            refine hK.out _ _ (HSx.out _ HBe3.out) (fun hHeld => ?_)
            clear hK K hown hbx HO0x2 HO1x2
            (try simp only [Act.put, List.setIfInBounds_toArray, List.set_cons_zero, List.set_cons_succ])
            refine wpAnyH_take (i := 6) (v := _) rfl (by kernel_rfl) (by kernel_rfl) (by kernel_rfl) (fun _ _ _ h => h) (Or.inl ⟨by rfl, by (intro w hSw; (try dsimp only at hSw); go_simp; first | done | with_reducible rfl)⟩) hHeld ?_
            (try simp only [Act.put, List.setIfInBounds_toArray, List.set_cons_zero, List.set_cons_succ])
            refine wpAnyH_take (i := 7) (v := _) rfl (by kernel_rfl) (by kernel_rfl) (by kernel_rfl) (fun _ _ _ h => h) (Or.inl ⟨by rfl, by (intro w hSw; (try dsimp only at hSw); go_simp; first | done | with_reducible rfl)⟩) hHeld ?_
            (try simp only [Act.put, List.setIfInBounds_toArray, List.set_cons_zero, List.set_cons_succ])
            refine wpAnyH_take (i := 8) (v := _) rfl (by kernel_rfl) (by kernel_rfl) (by kernel_rfl) (fun _ _ _ h => h) (Or.inl ⟨by rfl, by (intro w hSw; (try dsimp only at hSw); go_simp; first | done | with_reducible rfl)⟩) hHeld ?_
            (try simp only [Act.put, List.setIfInBounds_toArray, List.set_cons_zero, List.set_cons_succ])
            refine wpAnyH_ready (rs := [9]) (by kernel_rfl) (by simp) ?_
            refine AllReadyH.cons rfl (fun K hK => ?_) ?_
            · go_simp
              refine hK.out _ _ (HSx.out _ (HBe3.out.alloc HBe3.out.size _)) (fun hHeld => ?_)
              clear hK K
              (try simp only [Act.put, List.setIfInBounds_toArray, List.set_cons_zero, List.set_cons_succ])
              have hal := (Below.refl wz3.heap.size wz3).alloc (Nat.le_refl _) (.cells #[.int .i64 0, .int .i64 0, .string ⟨#[]⟩, .slice none 0 0] 25)
              have HBe4 := hid (HBe3.out.trans (hal.mono HBe3.out.size))
              have HSz4 := hid (show wz3.heap.size < (wz3.alloc (.cells #[.int .i64 0, .int .i64 0, .string ⟨#[]⟩, .slice none 0 0] 25)).heap.size by simp)
              have HO0x4 := hid (HO0x3.out.on hal)
              have HO1x4 := hid (HO1x3.out.on hal)
              have HBk4 := hid (HBk3.out.trans (hal.mono HBk3.out.size))
              have HN4 := hid (Row.new wz3 25 #[.int .i64 0, .int .i64 0, .string ⟨#[]⟩, .slice none 0 0])
              clear hal HO0x3 HO1x3 HBk3
              generalize wz3.alloc (.cells #[.int .i64 0, .int .i64 0, .string ⟨#[]⟩, .slice none 0 0] 25) = wz4 at HBe4 HO0x4 HO1x4 HN4 HBk4 HSz4 hHeld ⊢
              refine wpAnyH_ready (rs := [10]) (by kernel_rfl) (by simp) ?_
              refine AllReadyH.cons rfl (fun K hK => ?_) ?_
              · have n0 := HN4.out.cell 0
                have n1 := HN4.out.cell 1
                have n2 := HN4.out.cell 2
                have n3 := HN4.out.cell 3
                simp at n0 n1 n2 n3
                have hnf := HN4.out.free
                have hnl := HN4.out.lt
                go_simp
                have hgn := HBe3.out.size
                refine hK.out _ _ (HSx.out _ (four_bel HBe4.out hgn _ _ _ _)) (fun hHeld => ?_)
                clear hK K
                (try simp only [Act.put, List.setIfInBounds_toArray, List.set_cons_zero, List.set_cons_succ])
                refine wpAnyH_ready (rs := [11]) (by kernel_rfl) (by simp) ?_
                refine AllReadyH.cons rfl (fun K hK => ?_) AllReadyH.nil
                go_simp
                refine hK.out _ _ hHeld (fun _ => ?_)
                clear hK K
                (try simp only [Act.put, List.setIfInBounds_toArray, List.set_cons_zero, List.set_cons_succ])
                refine wpAnyH_done (by kernel_rfl) ?_ _
                clear n0 n1 n2 n3 hnf hHeld
                go_wp2_with fail
                go_meet
                have hs0 := HBe0.out.size
                have hs1 := HSz1.out
                have hs2 := HSz2.out
                have hs3 := HSz3.out
                have hs4 := HSz4.out
                refine ⟨wz3.heap.size, sC, kC, rfl, rfl, hgn, four_row HN4.out _ _ _ _, fun x hxz hxk => ?_, four_bel HBe4.out hgn _ _ _ _⟩
                rw [four_size] at hxz
                have hbk := HBk4.out.size
                exact HSt.out x (by omega) (fun k h1 h2 => (hxk k (by omega) (by rw [four_size]; omega)).trans ((four_far _ _ _ (by omega) _ _ _ _ _ _ _ _).trans (HBk4.out.block k h2)))
              exact AllReadyH.nil
            exact AllReadyH.nil
          refine AllReadyH.cons rfl (fun K hK => ?_) ?_
          · go_simp
            refine hK.out _ _ (HSx.out _ (HBe2.out.alloc HBe2.out.size _)) (fun hHeld => ?_)
            clear hK K
            (try simp only [Act.put, List.setIfInBounds_toArray, List.set_cons_zero, List.set_cons_succ])
            have hal := (Below.refl wz2.heap.size wz2).alloc (Nat.le_refl _) (.cells #[.int .i64 0, .int .i64 0, .string ⟨#[]⟩, .slice none 0 0] 25)
            have HBe3 := hid (HBe2.out.trans (hal.mono HBe2.out.size))
            have HSz3 := hid (show wz2.heap.size < (wz2.alloc (.cells #[.int .i64 0, .int .i64 0, .string ⟨#[]⟩, .slice none 0 0] 25)).heap.size by simp)
            have HO0x3 := hid (HO0x2.out.on hal)
            have HO1x3 := hid (HO1x2.out.on hal)
            have HN3 := hid (Row.new wz2 25 #[.int .i64 0, .int .i64 0, .string ⟨#[]⟩, .slice none 0 0])
            clear hal HO0x2 HO1x2
            generalize wz2.alloc (.cells #[.int .i64 0, .int .i64 0, .string ⟨#[]⟩, .slice none 0 0] 25) = wz3 at HBe3 HO0x3 HO1x3 HN3 HSz3 hHeld ⊢
            refine wpAnyH_ready (rs := [5]) (by kernel_rfl) (by simp) ?_
            refine AllReadyH.cons rfl (fun K hK => ?_) ?_
            · go_simp
              go_at_call 15
              refine (HCs.out _ _ _ _ HO0x3.out.rd HO1x3.out.rd (HTw.out _ HBe3.out)).mono ?_
              rintro e wz4 ⟨sC, kC, rfl, hown, hbx⟩
              simp only
              have HBe4 := hid (HBe3.out.trans (hbx.mono HBe3.out.size))
              have HSz4 := hid hbx.size
              have HO0x4 := hid (HO0x3.out.on hbx)
              have HO1x4 := hid (HO1x3.out.on hbx)
              have HN4 := hid (HN3.out.on hbx)
              have HSt := hid hown
              have HBk4 := hid (Below.refl wz4.heap.size wz4)
              refine hK.out _ _ (HSx.out _ HBe4.out) (fun hHeld => ?_)
              clear hK K hown hbx HO0x3 HO1x3 HN3
              (try simp only [Act.put, List.setIfInBounds_toArray, List.set_cons_zero, List.set_cons_succ])
              refine wpAnyH_take (i := 6) (v := _) rfl (by kernel_rfl) (by kernel_rfl) (by kernel_rfl) (fun _ _ _ h => h) (Or.inl ⟨by rfl, by (intro w hSw; (try dsimp only at hSw); go_simp; first | done | with_reducible rfl)⟩) hHeld ?_
              (try simp only [Act.put, List.setIfInBounds_toArray, List.set_cons_zero, List.set_cons_succ])
              refine wpAnyH_take (i := 7) (v := _) rfl (by kernel_rfl) (by kernel_rfl) (by kernel_rfl) (fun _ _ _ h => h) (Or.inl ⟨by rfl, by (intro w hSw; (try dsimp only at hSw); go_simp; first | done | with_reducible rfl)⟩) hHeld ?_
              (try simp only [Act.put, List.setIfInBounds_toArray, List.set_cons_zero, List.set_cons_succ])
              refine wpAnyH_take (i := 8) (v := _) rfl (by kernel_rfl) (by kernel_rfl) (by kernel_rfl) (fun _ _ _ h => h) (Or.inl ⟨by rfl, by (intro w hSw; (try dsimp only at hSw); go_simp; first | done | with_reducible rfl)⟩) hHeld ?_
              (try simp only [Act.put, List.setIfInBounds_toArray, List.set_cons_zero, List.set_cons_succ])
              refine wpAnyH_ready (rs := [10]) (by kernel_rfl) (by simp) ?_
              refine AllReadyH.cons rfl (fun K hK => ?_) ?_
              · have n0 := HN4.out.cell 0
                have n1 := HN4.out.cell 1
                have n2 := HN4.out.cell 2
                have n3 := HN4.out.cell 3
                simp at n0 n1 n2 n3
                have hnf := HN4.out.free
                have hnl := HN4.out.lt
                go_simp
                have hgn := HBe2.out.size
                refine hK.out _ _ (HSx.out _ (four_bel HBe4.out hgn _ _ _ _)) (fun hHeld => ?_)
                clear hK K
                (try simp only [Act.put, List.setIfInBounds_toArray, List.set_cons_zero, List.set_cons_succ])
                refine wpAnyH_ready (rs := [11]) (by kernel_rfl) (by simp) ?_
                refine AllReadyH.cons rfl (fun K hK => ?_) AllReadyH.nil
                go_simp
                refine hK.out _ _ hHeld (fun _ => ?_)
                clear hK K
                (try simp only [Act.put, List.setIfInBounds_toArray, List.set_cons_zero, List.set_cons_succ])
                refine wpAnyH_done (by kernel_rfl) ?_ _
                clear n0 n1 n2 n3 hnf hHeld
                go_wp2_with fail
                go_meet
                have hs0 := HBe0.out.size
                have hs1 := HSz1.out
                have hs2 := HSz2.out
                have hs3 := HSz3.out
                have hs4 := HSz4.out
                refine ⟨wz2.heap.size, sC, kC, rfl, rfl, hgn, four_row HN4.out _ _ _ _, fun x hxz hxk => ?_, four_bel HBe4.out hgn _ _ _ _⟩
                rw [four_size] at hxz
                have hbk := HBk4.out.size
                exact HSt.out x (by omega) (fun k h1 h2 => (hxk k (by omega) (by rw [four_size]; omega)).trans ((four_far _ _ _ (by omega) _ _ _ _ _ _ _ _).trans (HBk4.out.block k h2)))
              exact AllReadyH.nil
            exact AllReadyH.nil
          exact AllReadyH.nil
        refine AllReadyH.cons rfl (fun K hK => ?_) ?_
        · go_simp
          refine hK.out _ _ (HSx.out _ (HBe1.out.alloc HBe1.out.size _)) (fun hHeld => ?_)
          clear hK K
          (try simp only [Act.put, List.setIfInBounds_toArray, List.set_cons_zero, List.set_cons_succ])
          have hal := (Below.refl wz1.heap.size wz1).alloc (Nat.le_refl _) (.cells #[.int .i64 0, .int .i64 0, .string ⟨#[]⟩, .slice none 0 0] 25)
          have HBe2 := hid (HBe1.out.trans (hal.mono HBe1.out.size))
          have HSz2 := hid (show wz1.heap.size < (wz1.alloc (.cells #[.int .i64 0, .int .i64 0, .string ⟨#[]⟩, .slice none 0 0] 25)).heap.size by simp)
          have HO0x2 := hid (HO0x1.out.on hal)
          have HN2 := hid (Row.new wz1 25 #[.int .i64 0, .int .i64 0, .string ⟨#[]⟩, .slice none 0 0])
          clear hal HO0x1
          generalize wz1.alloc (.cells #[.int .i64 0, .int .i64 0, .string ⟨#[]⟩, .slice none 0 0] 25) = wz2 at HBe2 HO0x2 HN2 HSz2 hHeld ⊢
          refine wpAnyH_ready (rs := [4]) (by kernel_rfl) (by simp) ?_
          refine AllReadyH.cons rfl (fun K hK => ?_) ?_
          · go_simp
            go_at_call 30
            refine (HTb.out _ HBe2.out).mono ?_
            rintro e wz3 ⟨sB, cB, rfl, hown, hbx⟩
            simp only
            have HBe3 := hid (HBe2.out.trans (hbx.mono HBe2.out.size))
            have HSz3 := hid hbx.size
            have HO0x3 := hid (HO0x2.out.on hbx)
            have HN3 := hid (HN2.out.on hbx)
            have HO1x3 := hid hown
            refine hK.out _ _ (HSx.out _ HBe3.out) (fun hHeld => ?_)
            clear hK K hown hbx HO0x2 HN2
            (try simp only [Act.put, List.setIfInBounds_toArray, List.set_cons_zero, List.set_cons_succ])
            refine wpAnyH_ready (rs := [5]) (by kernel_rfl) (by simp) ?_
            refine AllReadyH.cons rfl (fun K hK => ?_) ?_
            · go_simp
              go_at_call 15
              refine (HCs.out _ _ _ _ HO0x3.out.rd HO1x3.out.rd (HTw.out _ HBe3.out)).mono ?_
              rintro e wz4 ⟨sC, kC, rfl, hown, hbx⟩
              simp only
              have HBe4 := hid (HBe3.out.trans (hbx.mono HBe3.out.size))
              have HSz4 := hid hbx.size
              have HO0x4 := hid (HO0x3.out.on hbx)
              have HO1x4 := hid (HO1x3.out.on hbx)
              have HN4 := hid (HN3.out.on hbx)
              have HSt := hid hown
              have HBk4 := hid (Below.refl wz4.heap.size wz4)
              refine hK.out _ _ (HSx.out _ HBe4.out) (fun hHeld => ?_)
              clear hK K hown hbx HO0x3 HO1x3 HN3
              (try simp only [Act.put, List.setIfInBounds_toArray, List.set_cons_zero, List.set_cons_succ])
              refine wpAnyH_take (i := 6) (v := _) rfl (by kernel_rfl) (by kernel_rfl) (by kernel_rfl) (fun _ _ _ h => h) (Or.inl ⟨by rfl, by (intro w hSw; (try dsimp only at hSw); go_simp; first | done | with_reducible rfl)⟩) hHeld ?_
              (try simp only [Act.put, List.setIfInBounds_toArray, List.set_cons_zero, List.set_cons_succ])
              refine wpAnyH_take (i := 7) (v := _) rfl (by kernel_rfl) (by kernel_rfl) (by kernel_rfl) (fun _ _ _ h => h) (Or.inl ⟨by rfl, by (intro w hSw; (try dsimp only at hSw); go_simp; first | done | with_reducible rfl)⟩) hHeld ?_
              (try simp only [Act.put, List.setIfInBounds_toArray, List.set_cons_zero, List.set_cons_succ])
              refine wpAnyH_take (i := 8) (v := _) rfl (by kernel_rfl) (by kernel_rfl) (by kernel_rfl) (fun _ _ _ h => h) (Or.inl ⟨by rfl, by (intro w hSw; (try dsimp only at hSw); go_simp; first | done | with_reducible rfl)⟩) hHeld ?_
              (try simp only [Act.put, List.setIfInBounds_toArray, List.set_cons_zero, List.set_cons_succ])
              refine wpAnyH_ready (rs := [10]) (by kernel_rfl) (by simp) ?_
              refine AllReadyH.cons rfl (fun K hK => ?_) ?_
              · have n0 := HN4.out.cell 0
                have n1 := HN4.out.cell 1
                have n2 := HN4.out.cell 2
                have n3 := HN4.out.cell 3
                simp at n0 n1 n2 n3
                have hnf := HN4.out.free
                have hnl := HN4.out.lt
                go_simp
                have hgn := HBe1.out.size
                refine hK.out _ _ (HSx.out _ (four_bel HBe4.out hgn _ _ _ _)) (fun hHeld => ?_)
                clear hK K
                (try simp only [Act.put, List.setIfInBounds_toArray, List.set_cons_zero, List.set_cons_succ])
                refine wpAnyH_ready (rs := [11]) (by kernel_rfl) (by simp) ?_
                refine AllReadyH.cons rfl (fun K hK => ?_) AllReadyH.nil
                go_simp
                refine hK.out _ _ hHeld (fun _ => ?_)
                clear hK K
                (try simp only [Act.put, List.setIfInBounds_toArray, List.set_cons_zero, List.set_cons_succ])
                refine wpAnyH_done (by kernel_rfl) ?_ _
                clear n0 n1 n2 n3 hnf hHeld
                go_wp2_with fail
                go_meet
                have hs0 := HBe0.out.size
                have hs1 := HSz1.out
                have hs2 := HSz2.out
                have hs3 := HSz3.out
                have hs4 := HSz4.out
                refine ⟨wz1.heap.size, sC, kC, rfl, rfl, hgn, four_row HN4.out _ _ _ _, fun x hxz hxk => ?_, four_bel HBe4.out hgn _ _ _ _⟩
                rw [four_size] at hxz
                have hbk := HBk4.out.size
                exact HSt.out x (by omega) (fun k h1 h2 => (hxk k (by omega) (by rw [four_size]; omega)).trans ((four_far _ _ _ (by omega) _ _ _ _ _ _ _ _).trans (HBk4.out.block k h2)))
              exact AllReadyH.nil
            exact AllReadyH.nil
          exact AllReadyH.nil
        exact AllReadyH.nil
      refine AllReadyH.cons rfl (fun K hK => ?_) ?_
      · go_simp
        refine hK.out _ _ (HSx.out _ (HBe0.out.alloc HBe0.out.size _)) (fun hHeld => ?_)
        clear hK K
        (try simp only [Act.put, List.setIfInBounds_toArray, List.set_cons_zero, List.set_cons_succ])
        have hal := (Below.refl wz0.heap.size wz0).alloc (Nat.le_refl _) (.cells #[.int .i64 0, .int .i64 0, .string ⟨#[]⟩, .slice none 0 0] 25)
        have HBe1 := hid (HBe0.out.trans (hal.mono HBe0.out.size))
        have HSz1 := hid (show wz0.heap.size < (wz0.alloc (.cells #[.int .i64 0, .int .i64 0, .string ⟨#[]⟩, .slice none 0 0] 25)).heap.size by simp)
        have HN1 := hid (Row.new wz0 25 #[.int .i64 0, .int .i64 0, .string ⟨#[]⟩, .slice none 0 0])
        clear hal 
        generalize wz0.alloc (.cells #[.int .i64 0, .int .i64 0, .string ⟨#[]⟩, .slice none 0 0] 25) = wz1 at HBe1 HN1 HSz1 hHeld ⊢
        refine wpAnyH_ready (rs := [1]) (by kernel_rfl) (by simp) ?_
        refine AllReadyH.cons rfl (fun K hK => ?_) ?_
        · go_simp
          go_at_call 30
          refine (HTa.out _ HBe1.out).mono ?_
          rintro e wz2 ⟨sA, cA, rfl, hown, hbx⟩
          simp only
          have HBe2 := hid (HBe1.out.trans (hbx.mono HBe1.out.size))
          have HSz2 := hid hbx.size
          have HN2 := hid (HN1.out.on hbx)
          have HO0x2 := hid hown
          refine hK.out _ _ (HSx.out _ HBe2.out) (fun hHeld => ?_)
          clear hK K hown hbx HN1
          (try simp only [Act.put, List.setIfInBounds_toArray, List.set_cons_zero, List.set_cons_succ])
          refine wpAnyH_ready (rs := [4]) (by kernel_rfl) (by simp) ?_
          refine AllReadyH.cons rfl (fun K hK => ?_) ?_
          · go_simp
            go_at_call 30
            refine (HTb.out _ HBe2.out).mono ?_
            rintro e wz3 ⟨sB, cB, rfl, hown, hbx⟩
            simp only
            have HBe3 := hid (HBe2.out.trans (hbx.mono HBe2.out.size))
            have HSz3 := hid hbx.size
            have HO0x3 := hid (HO0x2.out.on hbx)
            have HN3 := hid (HN2.out.on hbx)
            have HO1x3 := hid hown
            refine hK.out _ _ (HSx.out _ HBe3.out) (fun hHeld => ?_)
            clear hK K hown hbx HO0x2 HN2
            (try simp only [Act.put, List.setIfInBounds_toArray, List.set_cons_zero, List.set_cons_succ])
            refine wpAnyH_ready (rs := [5]) (by kernel_rfl) (by simp) ?_
            refine AllReadyH.cons rfl (fun K hK => ?_) ?_
            · go_simp
              go_at_call 15
              refine (HCs.out _ _ _ _ HO0x3.out.rd HO1x3.out.rd (HTw.out _ HBe3.out)).mono ?_
              rintro e wz4 ⟨sC, kC, rfl, hown, hbx⟩
              simp only
              have HBe4 := hid (HBe3.out.trans (hbx.mono HBe3.out.size))
              have HSz4 := hid hbx.size
              have HO0x4 := hid (HO0x3.out.on hbx)
              have HO1x4 := hid (HO1x3.out.on hbx)
              have HN4 := hid (HN3.out.on hbx)
              have HSt := hid hown
              have HBk4 := hid (Below.refl wz4.heap.size wz4)
              refine hK.out _ _ (HSx.out _ HBe4.out) (fun hHeld => ?_)
              clear hK K hown hbx HO0x3 HO1x3 HN3
              (try simp only [Act.put, List.setIfInBounds_toArray, List.set_cons_zero, List.set_cons_succ])
              refine wpAnyH_take (i := 6) (v := _) rfl (by kernel_rfl) (by kernel_rfl) (by kernel_rfl) (fun _ _ _ h => h) (Or.inl ⟨by rfl, by (intro w hSw; (try dsimp only at hSw); go_simp; first | done | with_reducible rfl)⟩) hHeld ?_
              (try simp only [Act.put, List.setIfInBounds_toArray, List.set_cons_zero, List.set_cons_succ])
              refine wpAnyH_take (i := 7) (v := _) rfl (by kernel_rfl) (by kernel_rfl) (by kernel_rfl) (fun _ _ _ h => h) (Or.inl ⟨by rfl, by (intro w hSw; (try dsimp only at hSw); go_simp; first | done | with_reducible rfl)⟩) hHeld ?_
              (try simp only [Act.put, List.setIfInBounds_toArray, List.set_cons_zero, List.set_cons_succ])
              refine wpAnyH_take (i := 8) (v := _) rfl (by kernel_rfl) (by kernel_rfl) (by kernel_rfl) (fun _ _ _ h => h) (Or.inl ⟨by rfl, by (intro w hSw; (try dsimp only at hSw); go_simp; first | done | with_reducible rfl)⟩) hHeld ?_
              (try simp only [Act.put, List.setIfInBounds_toArray, List.set_cons_zero, List.set_cons_succ])
              refine wpAnyH_ready (rs := [10]) (by kernel_rfl) (by simp) ?_
              refine AllReadyH.cons rfl (fun K hK => ?_) ?_
              · have n0 := HN4.out.cell 0
                have n1 := HN4.out.cell 1
                have n2 := HN4.out.cell 2
                have n3 := HN4.out.cell 3
                simp at n0 n1 n2 n3
                have hnf := HN4.out.free
                have hnl := HN4.out.lt
                go_simp
                have hgn := HBe0.out.size
                refine hK.out _ _ (HSx.out _ (four_bel HBe4.out hgn _ _ _ _)) (fun hHeld => ?_)
                clear hK K
                (try simp only [Act.put, List.setIfInBounds_toArray, List.set_cons_zero, List.set_cons_succ])
                refine wpAnyH_ready (rs := [11]) (by kernel_rfl) (by simp) ?_
                refine AllReadyH.cons rfl (fun K hK => ?_) AllReadyH.nil
                go_simp
                refine hK.out _ _ hHeld (fun _ => ?_)
                clear hK K
                (try simp only [Act.put, List.setIfInBounds_toArray, List.set_cons_zero, List.set_cons_succ])
                refine wpAnyH_done (by kernel_rfl) ?_ _
                clear n0 n1 n2 n3 hnf hHeld
                go_wp2_with fail
                go_meet
                have hs0 := HBe0.out.size
                have hs1 := HSz1.out
                have hs2 := HSz2.out
                have hs3 := HSz3.out
                have hs4 := HSz4.out
                refine ⟨wz0.heap.size, sC, kC, rfl, rfl, hgn, four_row HN4.out _ _ _ _, fun x hxz hxk => ?_, four_bel HBe4.out hgn _ _ _ _⟩
                rw [four_size] at hxz
                have hbk := HBk4.out.size
                exact HSt.out x (by omega) (fun k h1 h2 => (hxk k (by omega) (by rw [four_size]; omega)).trans ((four_far _ _ _ (by omega) _ _ _ _ _ _ _ _).trans (HBk4.out.block k h2)))
              exact AllReadyH.nil
            exact AllReadyH.nil
          exact AllReadyH.nil
        exact AllReadyH.nil
      exact AllReadyH.nil
    case rest =>
    obtain ⟨gh, sh, ch, rfl, rfl, hgh, hrg, hst, hbi⟩ := hcut
    generalize wc = w18 at hrg hst hbi ⊢
    have HGi := hid hrg
    have HKi := hid hst
    have HIi := hid (HIh.out.on hbi)
    have HOi := hid (HOh.out.on hbi)
    have HBi := hid (HBh.out.trans (hbi.mono HBh.out.size))
    have HPi := hid (HPh.out.trans (hbi.mono HPh.out.size))
    have HGwi := hid (HG.out.below HPi.out HG.out.lt)
    clear hrg hst hbi HSx HTa HTb HBe0 HCs
    have i0 := HGi.out.cell 0
    have i1 := HGi.out.cell 1
    have i2 := HGi.out.cell 2
    have i3 := HGi.out.cell 3
    have v0 := HGwi.out.cell 0
    have v1 := HGwi.out.cell 1
    have v2 := HGwi.out.cell 2
    have v3 := HGwi.out.cell 3
    simp at i0 i1 i2 i3 v0 v1 v2 v3
    go_wp2_with fail
    refine (eqTerm_v HPr.out (n := n + 30) (HKi.out.here.mono (by omega)) ((HKd.out.on HPi.out).mono (by omega)) (by have := HRw.out; omega)).mono ?_
    rintro e w19 ⟨rfl, hbj⟩
    have HIj := hid (HIi.out.on hbj)
    have HOj := hid (HOi.out.on hbj)
    have HBj := hid (HBi.out.trans (hbj.mono HBi.out.size))
    clear hbj i0 i1 i2 i3 v0 v1 v2 v3
    have i0 := HIj.out.cell 0
    have i1 := HIj.out.cell 1
    have i2 := HIj.out.cell 2
    have i3 := HIj.out.cell 3
    simp at i0 i1 i2 i3
    go_wp2_with fail
    refine (heldTerm_v (n := 28) (lk := 0) (t := .mk z0 z1 z2 []) ⟨rfl, rfl, rfl, rfl⟩ HOj.out.rd HMk.out (by omega) (by have := HMm.out; omega) (k := 1)).mono ?_
    rintro e w20 ⟨rfl, hbk⟩
    have HBk := hid (HBj.out.trans (hbk.mono HBj.out.size))
    clear hbk i0 i1 i2 i3
    go_wp2_with fail
    go_ret
    exact ⟨rfl, HBk.out⟩
end Go.Proofs.YtgenojpdjplccaaDoor.Um
