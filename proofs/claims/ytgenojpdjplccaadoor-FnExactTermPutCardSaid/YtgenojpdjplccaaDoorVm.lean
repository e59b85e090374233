/- A term in which another one stands for a variable: replaced of the model. -/
import Derived.Test.YtgenojpdjplccaaDoorVl
import Derived.Test.YtgenojpdjplccaaDoorVj
import Derived.Test.YtgenojpdjplccaaDoorVi
import Derived.Deep.RegionHeld3
import Derived.IntWalk
set_option linter.unusedSimpArgs false
set_option linter.unusedVariables false
namespace Go.Proofs.YtgenojpdjplccaaDoor.Um
open Go.RowKit Go.MapKept Pl Ft Mm In C2 Im

theorem row_set {w : World} {g : Nat} {t : TypeId} {x0 x1 x2 x3 : Value} (h : Row w g t #[x0, x1, x2, x3]) (v : Value) : Row (w.setCell ⟨g, 3, none⟩ v) g t #[x0, x1, x2, v] := h.set 3 v
theorem list_eq {a b : ByteArray} (h : (a.toList == b.toList) = true) : a = b := by
  have h2 : a.toList = b.toList := by simpa using h
  rw [ByteArray.toList_eq, ByteArray.toList_eq] at h2
  exact ByteArray.ext (Array.toList_inj.1 h2)
theorem list_ne {a b : ByteArray} (h : (a.toList == b.toList) = false) : ¬ a = b := by
  rintro rfl
  simp at h
set_option maxRecDepth 100000 in
set_option maxHeartbeats 8000000 in
theorem replaced_c (s : ByteArray) (x : Tm) (nx : Nat) (hwx : x.wide ≤ 100000) (h : Nat) : ∀ (n : Nat) (t : Tm) (kv vx : Value) (w : World), KRd w n kv t.kids → shape h t = true → KRd w nx vx x.kids →
    Calls Tryd.prog 52 #[tmVal t kv, .string s, tmVal x vx] w (CpPost1 (h + nx) (putT s x h t) w) := by
  induction h with
  | zero => intro n t kv vx w _ hs; simp [shape] at hs
  | succ h ih =>
    intro n t kv vx w hr hs hrx
    obtain ⟨hf, hks⟩ := shape_at hs
    have HI := hid ih
    have HR := hid hr
    have HSh := hid hks
    have HRx := hid hrx
    have hk2 := form_kids hf
    obtain ⟨a, cap, rfl⟩ := hr.slice
    obtain ⟨ax, cx, rfl⟩ := hrx.slice
    clear ih hr hs hks hf hrx
    obtain ⟨x0, x1, x2, lk, hp⟩ := Pt.of t
    obtain ⟨q0, q1, q2, lx, hpx⟩ := Pt.of x
    have HPx := hid hpx
    unfold CpPost1
    rw [hp.val, hpx.val]
    have HPv := hid (fun (v : Value) (hno : ¬ (x0 = 1 ∧ x2 = s)) => (show tmVal (putT s x (h + 1) t) v = .agg #[.int .i64 x0, .int .i64 x1, .string x2, v] by
      rw [putT, hp.k, hp.s, if_neg hno, hp.n]; rfl))
    have HPk := hid (fun (hno : ¬ (x0 = 1 ∧ x2 = s)) => (show (putT s x (h + 1) t).kids = t.kids.map (putT s x h) by
      rw [putT, hp.k, hp.s, if_neg hno]; rfl))
    have HPy := hid (fun (hyes : x0 = 1 ∧ x2 = s) => (show putT s x (h + 1) t = x by rw [putT, hp.k, hp.s, if_pos hyes]))
    rw [hp.l] at hk2 HR ⊢
    rw [hpx.l] at HRx ⊢
    have hlk := hp.l
    clear hp hpx
    obtain ⟨ks, hks⟩ : ∃ l, t.kids = l := ⟨_, rfl⟩
    rw [hks] at HR hlk HSh HPk
    clear hks
    subst hlk
    have hb1 := (Below.refl w.heap.size w).alloc (Nat.le_refl _) (.cells #[.int .i64 x0, .int .i64 x1, .string x2, .slice a ks.length cap] 25)
    have hb2 := hb1.alloc hb1.size (.cells #[.int .i64 q0, .int .i64 q1, .string q2, .slice ax lx cx] 25)
    have HB0 := hid (hb2.alloc hb2.size (.cells #[.int .i64 0, .int .i64 0, .string ⟨#[]⟩, .slice none 0 0] 25))
    have HX0 := hid (((Row.new w 25 #[.int .i64 x0, .int .i64 x1, .string x2, .slice a ks.length cap]).alloc (.cells #[.int .i64 q0, .int .i64 q1, .string q2, .slice ax lx cx] 25)).alloc (.cells #[.int .i64 0, .int .i64 0, .string ⟨#[]⟩, .slice none 0 0] 25))
    have HY0 := hid ((Row.new (w.alloc (.cells #[.int .i64 x0, .int .i64 x1, .string x2, .slice a ks.length cap] 25)) 25 #[.int .i64 q0, .int .i64 q1, .string q2, .slice ax lx cx]).alloc (.cells #[.int .i64 0, .int .i64 0, .string ⟨#[]⟩, .slice none 0 0] 25))
    have HZ0 := hid (Row.new ((w.alloc (.cells #[.int .i64 x0, .int .i64 x1, .string x2, .slice a ks.length cap] 25)).alloc (.cells #[.int .i64 q0, .int .i64 q1, .string q2, .slice ax lx cx] 25)) 25 #[.int .i64 0, .int .i64 0, .string ⟨#[]⟩, .slice none 0 0])
    simp only [World.size_alloc] at HY0 HZ0
    clear hb1 hb2
    cases hyes : (x0 == 1) && (x2.toList == s.toList)
    case true =>
      have hy : (x0 == 1) = true ∧ (x2.toList == s.toList) = true := by simpa using hyes
      have hy1 : x0 = 1 := by simpa using hy.1
      have hy2 := list_eq hy.2
      have HE := hid (HPy.out ⟨hy1, hy2⟩)
      clear hyes hy HPv HPk HPy
      subst hy1
      subst hy2
      rw [HE.out]
      go_enter Tryd.func52, Tryd.ntmps52
      go_wp2_with fail
      rw [← HPx.out.val]
      refine (copyTerm_c nx x _ _ (HRx.out.on HB0.out) hwx).mono ?_
      rintro e w1 ⟨v1, rfl, hown1, hb1⟩
      rw [HPx.out.val]
      obtain ⟨s1, c1, rfl⟩ := hown1.slice
      have HOwn1 := hid hown1
      simp only [World.size_alloc] at HOwn1
      rw [HPx.out.l] at HOwn1 ⊢
      have HB1 := hid (HB0.out.trans (hb1.mono HB0.out.size))
      have HZ1 := hid (HZ0.out.on hb1)
      have hz1 := hb1.size
      simp only [World.size_alloc] at hz1
      clear hown1 hb1
      have r0 := HZ1.out.cell 0
      have r1 := HZ1.out.cell 1
      have r2 := HZ1.out.cell 2
      have r3 := HZ1.out.cell 3
      simp at r0 r1 r2 r3
      have hfr := HZ1.out.free
      go_wp2_with fail
      clear r0 r1 r2 r3 hfr
      have HR6 := hid (four_row HZ1.out (.int .i64 q0) (.int .i64 q1) (.string q2) (.slice s1 lx c1))
      refine bodyPost_ret (v := .agg #[.int .i64 q0, .int .i64 q1, .string q2, .slice s1 lx c1])
        (results_cell_row Tryd.results52 _ _ (w.heap.size + 1 + 1) 25 #[.int .i64 q0, .int .i64 q1, .string q2, .slice s1 lx c1] (0, 0) _ rfl HR6.out Tryd.underlying25 rfl size_term) rfl ?_
      refine ⟨.slice s1 lx c1, by rw [HPx.out.val], ?_, four_bel HB1.out (by omega) _ _ _ _⟩
      rw [four_size]
      refine (KOwn.mono (n := nx) (HOwn1.out.keep (fun b h1 h2 h3 => ?_)) (by omega)).widen (by omega) (Nat.le_refl _)
      rw [four_far _ _ _ (by omega)]
    case false =>
    have HNo := hid (show ¬ (x0 = 1 ∧ x2 = s) by
      rintro ⟨rfl, rfl⟩
      simp at hyes)
    clear HPy
    have HZn := hid (Row.new (((w.alloc (.cells #[.int .i64 x0, .int .i64 x1, .string x2, .slice a ks.length cap] 25)).alloc (.cells #[.int .i64 q0, .int .i64 q1, .string q2, .slice ax lx cx] 25)).alloc (.cells #[.int .i64 0, .int .i64 0, .string ⟨#[]⟩, .slice none 0 0] 25)) 25 #[.int .i64 x0, .int .i64 x1, .string x2, .slice none 0 0])
    simp only [World.size_alloc] at HZn
    have HX1 := hid (HX0.out.alloc (.cells #[.int .i64 x0, .int .i64 x1, .string x2, .slice none 0 0] 25))
    have HY1 := hid (HY0.out.alloc (.cells #[.int .i64 x0, .int .i64 x1, .string x2, .slice none 0 0] 25))
    have HZ1 := hid (HZ0.out.alloc (.cells #[.int .i64 x0, .int .i64 x1, .string x2, .slice none 0 0] 25))
    have HB1 := hid (HB0.out.alloc HB0.out.size (.cells #[.int .i64 x0, .int .i64 x1, .string x2, .slice none 0 0] 25))
    have HSz1 := hid (show w.heap.size + 1 + 1 + 1 + 1 ≤ ((((w.alloc (.cells #[.int .i64 x0, .int .i64 x1, .string x2, .slice a ks.length cap] 25)).alloc (.cells #[.int .i64 q0, .int .i64 q1, .string q2, .slice ax lx cx] 25)).alloc (.cells #[.int .i64 0, .int .i64 0, .string ⟨#[]⟩, .slice none 0 0] 25)).alloc (.cells #[.int .i64 x0, .int .i64 x1, .string x2, .slice none 0 0] 25)).heap.size by simp)
    have hcond : ((x0 == 1) = false) ∨ ((x0 == 1) = true ∧ (x2.toList == s.toList) = false) := by
      cases hh : (x0 == 1)
      · exact .inl rfl
      · rw [hh] at hyes
        exact .inr ⟨rfl, by simpa using hyes⟩
    clear hyes
    rcases hcond with hcx | ⟨hcx, hct⟩
    all_goals
      go_enter Tryd.func52, Tryd.ntmps52
      go_wp2_with fail
      clear hcx
      try clear hct
      go_loopw [8] (fun i wr => ∃ (k : Nat) (vk : Value), i = .int .i64 k ∧ k ≤ ks.length ∧ KOwn wr (h + nx + 1) (w.heap.size + 1 + 1 + 1 + 1) wr.heap.size vk ((ks.take k).map (putT s x h)) ∧ Row wr w.heap.size 25 #[.int .i64 x0, .int .i64 x1, .string x2, .slice a ks.length cap] ∧ Row wr (w.heap.size + 1) 25 #[.int .i64 q0, .int .i64 q1, .string q2, .slice ax lx cx] ∧ Row wr (w.heap.size + 1 + 1) 25 #[.int .i64 0, .int .i64 0, .string ⟨#[]⟩, .slice none 0 0] ∧ Row wr (w.heap.size + 1 + 1 + 1) 25 #[.int .i64 x0, .int .i64 x1, .string x2, vk] ∧ Below w.heap.size w wr) (fun i _ => ks.length - (intOf i).toNat)
      case atStart => exact ⟨0, .slice none 0 0, rfl, by omega, KOwn.empty HSz1.out ⟨by simp, .inl ⟨rfl, rfl⟩⟩ (fun r h => by cases h), HX1.out, HY1.out, HZ1.out, HZn.out, HB1.out⟩
      case round =>
        obtain ⟨k, vk, rfl, hk, hown, hrx, hry, hrz, hro, hbel⟩ := hrel
        have HOwn := hid hown
        have HX := hid hrx
        have HY := hid hry
        have HZ := hid hrz
        have HRo := hid hro
        have HBw := hid hbel
        have hz := hbel.size
        have hzr : w.heap.size + 1 + 1 + 1 + 1 ≤ wr.heap.size := by have := hown.le; omega
        have hlx := hrx.lt
        have hly := hry.lt
        have d3 := hrx.cell 3
        simp at d3
        clear hown hrx hry hrz hro hbel
        by_cases hlt : k < ks.length
        · obtain ⟨m, b, o, cap', rfl, hv, hg, hc⟩ := HR.out.cells (by omega)
          simp only [Value.slice.injEq, true_and] at hv
          obtain ⟨rfl, rfl⟩ := hv
          obtain ⟨u, c0, c1, c2, c3, hru⟩ := hc k hlt
          have HSn := hid (maps_snoc (f := putT s x h) hlt)
          have HLn := hid (show ((ks.take k).map (putT s x h)).length ≤ 2 by rw [List.length_map, List.length_take]; omega)
          have HShk := hid (HSh.out k hlt)
          obtain ⟨t2, ht⟩ : ∃ t, ks.getD k tz = t := ⟨_, rfl⟩
          rw [ht] at c0 c1 c2 hru HSn HShk
          obtain ⟨su, cu, rfl⟩ := hru.slice
          obtain ⟨y0, y1, y2, ly, hq⟩ := Pt.of t2
          rw [hq.k] at c0
          rw [hq.n] at c1
          rw [hq.s] at c2
          rw [hq.l] at c3 hru
          have HRu := hid hru
          have HQ := hid hq
          obtain ⟨zs, hzs⟩ : ∃ l, (ks.take k).map (putT s x h) = l := ⟨_, rfl⟩
          rw [hzs] at HOwn HSn HLn
          obtain ⟨sk, ck, rfl⟩ := HOwn.out.slice
          obtain ⟨t3, hft⟩ : ∃ r, putT s x h t2 = r := ⟨_, rfl⟩
          have HFt := hid hft
          obtain ⟨z0, z1, z2, lz, hq3⟩ := Pt.of t3
          have HQ3 := hid hq3
          rw [hft] at HSn
          have HCall := hid (fun (wx : World) (hbx : Below (w.heap.size + 1 + 1 + 1) wr wx) => (show Calls Tryd.prog 52 #[.agg #[.int .i64 y0, .int .i64 y1, .string y2, .slice su ly cu], .string s, .agg #[.int .i64 q0, .int .i64 q1, .string q2, .slice ax lx cx]] wx (CpPost1 (h + nx) (putT s x h t2) wx) by
            have hbw := HBw.out.trans (hbx.mono (show w.heap.size ≤ w.heap.size + 1 + 1 + 1 by omega))
            have := HI.out m t2 (.slice su ly cu) (.slice ax lx cx) wx (HRu.out.on hbw) HShk.out (HRx.out.on hbw)
            rw [HQ.out.val, HPx.out.val] at this
            exact this))
          have HSx := hid (fun (wx : World) (hbx : Below (w.heap.size + 1 + 1 + 1) wr wx) => (show wx.cell? ⟨w.heap.size, 3, none⟩ = some (.slice (some ⟨b, o, none⟩) ks.length cap) ∧ wx.cell? ⟨b, o + k * 4, none⟩ = some (.int .i64 y0) ∧ wx.cell? ⟨b, o + k * 4 + 1, none⟩ = some (.int .i64 y1) ∧ wx.cell? ⟨b, o + k * 4 + 2, none⟩ = some (.string y2) ∧ wx.cell? ⟨b, o + k * 4 + 3, none⟩ = some (.slice su ly cu) ∧ wx.cell? ⟨w.heap.size + 1, 0, none⟩ = some (.int .i64 q0) ∧ wx.cell? ⟨w.heap.size + 1, 1, none⟩ = some (.int .i64 q1) ∧ wx.cell? ⟨w.heap.size + 1, 2, none⟩ = some (.string q2) ∧ wx.cell? ⟨w.heap.size + 1, 3, none⟩ = some (.slice ax lx cx) from by
            have hbw := HBw.out.trans (hbx.mono (show w.heap.size ≤ w.heap.size + 1 + 1 + 1 by omega))
            have t3 := (HX.out.below hbx (by omega)).cell 3
            have r0 := (HY.out.below hbx (by omega)).cell 0
            have r1 := (HY.out.below hbx (by omega)).cell 1
            have r2 := (HY.out.below hbx (by omega)).cell 2
            have r3 := (HY.out.below hbx (by omega)).cell 3
            exact ⟨t3, (hbw.cell (p := ⟨b, o + k * 4, none⟩) hg).trans c0, (hbw.cell (p := ⟨b, o + k * 4 + 1, none⟩) hg).trans c1, (hbw.cell (p := ⟨b, o + k * 4 + 2, none⟩) hg).trans c2, (hbw.cell (p := ⟨b, o + k * 4 + 3, none⟩) hg).trans c3, r0, r1, r2, r3⟩))
          have HBe0 := hid (show Below (w.heap.size + 1 + 1 + 1) wr wr.drew from (Below.refl wr.heap.size wr).drew.mono (by omega))
          have hk0 : 0 ≤ (k : Int) := by omega
          have hk1 : (k : Int) < ks.length := by omega
          clear hc c0 c1 c2 c3 hru ht hq hzs hft hq3
          go_upto_region 8 with fail
          clear d3
          refine wp_region_held_drew (S := fun w' => w'.cell? ⟨w.heap.size, 3, none⟩ = some (.slice (some ⟨b, o, none⟩) ks.length cap) ∧ w'.cell? ⟨b, o + k * 4, none⟩ = some (.int .i64 y0) ∧ w'.cell? ⟨b, o + k * 4 + 1, none⟩ = some (.int .i64 y1) ∧ w'.cell? ⟨b, o + k * 4 + 2, none⟩ = some (.string y2) ∧ w'.cell? ⟨b, o + k * 4 + 3, none⟩ = some (.slice su ly cu) ∧ w'.cell? ⟨w.heap.size + 1, 0, none⟩ = some (.int .i64 q0) ∧ w'.cell? ⟨w.heap.size + 1, 1, none⟩ = some (.int .i64 q1) ∧ w'.cell? ⟨w.heap.size + 1, 2, none⟩ = some (.string q2) ∧ w'.cell? ⟨w.heap.size + 1, 3, none⟩ = some (.slice ax lx cx)) (by kernel_rfl) (HSx.out _ HBe0.out) (fun hHeld => ?_)
          refine wpAnyH_take (i := 0) (v := _) rfl (by kernel_rfl) (by kernel_rfl) (by kernel_rfl) (fun _ _ _ h => h) (Or.inl ⟨by rfl, by (intro w hSw; (try dsimp only at hSw); go_simp; first | done | with_reducible rfl)⟩) hHeld ?_
          (try simp only [Act.put, List.setIfInBounds_toArray, List.set_cons_zero, List.set_cons_succ])
          refine wpAnyH_take (i := 2) (v := _) rfl (by kernel_rfl) (by kernel_rfl) (by kernel_rfl) (fun _ _ _ h => h) (Or.inl ⟨by rfl, by (intro w hSw; (try dsimp only at hSw); go_simp; first | done | with_reducible rfl)⟩) hHeld ?_
          (try simp only [Act.put, List.setIfInBounds_toArray, List.set_cons_zero, List.set_cons_succ])
          refine wpAnyH_take (i := 3) (v := _) rfl (by kernel_rfl) (by kernel_rfl) (by kernel_rfl) (fun _ _ _ h => h) (Or.inl ⟨by rfl, by (intro w hSw; (try dsimp only at hSw); go_simp; first | done | with_reducible rfl)⟩) hHeld ?_
          (try simp only [Act.put, List.setIfInBounds_toArray, List.set_cons_zero, List.set_cons_succ])
          refine wpAnyH_take (i := 4) (v := _) rfl (by kernel_rfl) (by kernel_rfl) (by kernel_rfl) (fun _ _ _ h => h) (Or.inl ⟨by rfl, by (intro w hSw; (try dsimp only at hSw); go_simp; first | done | with_reducible rfl)⟩) hHeld ?_
          (try simp only [Act.put, List.setIfInBounds_toArray, List.set_cons_zero, List.set_cons_succ])
          refine wpAnyH_take (i := 5) (v := _) rfl (by kernel_rfl) (by kernel_rfl) (by kernel_rfl) (fun _ _ _ h => h) (Or.inl ⟨by rfl, by (intro w hSw; (try dsimp only at hSw); go_simp; first | done | with_reducible rfl)⟩) hHeld ?_
          (try simp only [Act.put, List.setIfInBounds_toArray, List.set_cons_zero, List.set_cons_succ])
          refine wpAnyH_take (i := 6) (v := _) rfl (by kernel_rfl) (by kernel_rfl) (by kernel_rfl) (fun _ _ _ h => h) (Or.inl ⟨by rfl, by (intro w hSw; (try dsimp only at hSw); go_simp; first | done | with_reducible rfl)⟩) hHeld ?_
          (try simp only [Act.put, List.setIfInBounds_toArray, List.set_cons_zero, List.set_cons_succ])
          refine wpAnyH_take (i := 7) (v := _) rfl (by kernel_rfl) (by kernel_rfl) (by kernel_rfl) (fun _ _ _ h => h) (Or.inl ⟨by rfl, by (intro w hSw; (try dsimp only at hSw); go_simp; first | done | with_reducible rfl)⟩) hHeld ?_
          (try simp only [Act.put, List.setIfInBounds_toArray, List.set_cons_zero, List.set_cons_succ])
          refine wpAnyH_take (i := 8) (v := _) rfl (by kernel_rfl) (by kernel_rfl) (by kernel_rfl) (fun _ _ _ h => h) (Or.inl ⟨by rfl, by (intro w hSw; (try dsimp only at hSw); go_simp; first | done | with_reducible rfl)⟩) hHeld ?_
          (try simp only [Act.put, List.setIfInBounds_toArray, List.set_cons_zero, List.set_cons_succ])
          have HOwn0 := hid (HOwn.out.on (Below.refl wr.heap.size wr).drew)
          have HRo0 := hid (HRo.out.on (Below.refl wr.heap.size wr).drew)
          generalize wr.drew = wz0 at HBe0 HOwn0 HRo0 hHeld ⊢
          refine wpAnyH_ready (rs := [1, 9]) (by kernel_rfl) (by simp) ?_
          refine AllReadyH.cons rfl (fun K hK => ?_) ?_
          · have o3 := HRo0.out.cell 3
            simp at o3
            have hol := HRo0.out.lt
            go_simp
            refine hK.out _ _ hHeld (fun _ => ?_)
            clear hK K o3 hol
            (try simp only [Act.put, List.setIfInBounds_toArray, List.set_cons_zero, List.set_cons_succ])
            refine wpAnyH_ready (rs := [9]) (by kernel_rfl) (by simp) ?_
            refine AllReadyH.cons rfl (fun K hK => ?_) ?_
            · go_simp
              go_at_call 52
              refine (HCall.out _ HBe0.out).mono ?_
              rintro e wz1 ⟨v3, rfl, hown3, hb3⟩
              rw [HFt.out] at hown3 ⊢
              obtain ⟨s3, c3, rfl⟩ := hown3.slice
              rw [HQ3.out.val]
              rw [HQ3.out.l] at hown3 ⊢
              simp only
              have HBe1 := hid (HBe0.out.trans (hb3.mono (by have := HBe0.out.size; omega)))
              have HOwn1 := hid (HOwn0.out.on hb3)
              have HRo1 := hid (HRo0.out.on hb3)
              have HK1 := hid hown3
              have HSz1 := hid (show wr.heap.size ≤ wz1.heap.size by have := HBe0.out.size; have := hb3.size; omega)
              refine hK.out _ _ (HSx.out _ HBe1.out) (fun hHeld => ?_)
              clear hK K hown3 hb3 HOwn0 HRo0
              (try simp only [Act.put, List.setIfInBounds_toArray, List.set_cons_zero, List.set_cons_succ])
              refine wpAnyH_ready (rs := [10]) (by kernel_rfl) (by simp) ?_
              refine AllReadyH.cons rfl (fun K hK => ?_) ?_
              · go_simp
                have HBe2 := hid (HBe1.out.alloc (by have := HBe1.out.size; omega) (.cells #[.int .i64 z0, .int .i64 z1, .string z2, .slice s3 lz c3] 25))
                refine hK.out _ _ (HSx.out _ HBe2.out) (fun hHeld => ?_)
                clear hK K
                (try simp only [Act.put, List.setIfInBounds_toArray, List.set_cons_zero, List.set_cons_succ])
                have hal := (Below.refl wz1.heap.size wz1).alloc (Nat.le_refl _) (.cells #[.int .i64 z0, .int .i64 z1, .string z2, .slice s3 lz c3] 25)
                have HOwn2 := hid (HOwn1.out.on hal)
                have HRo2 := hid (HRo1.out.on hal)
                have HK2 := hid (HK1.out.on hal)
                have HSz2 := hid (show wz1.heap.size ≤ (wz1.alloc (.cells #[.int .i64 z0, .int .i64 z1, .string z2, .slice s3 lz c3] 25)).heap.size by simp)
                have HSr := hid (src_term wz1 z0 z1 z2 (.slice s3 lz c3) _ rfl)
                clear hal HOwn1 HRo1 HK1
                generalize wz1.alloc (.cells #[.int .i64 z0, .int .i64 z1, .string z2, .slice s3 lz c3] 25) = wz2 at HBe2 HOwn2 HRo2 HK2 HSz2 HSr hHeld ⊢
                refine wpAnyH_ready (rs := [11]) (by kernel_rfl) (by simp) ?_
                refine AllReadyH.cons rfl (fun K hK => ?_) ?_
                · refine stp_term wz2 rfl _ _ rfl (w.heap.size + 1 + 1 + 1 + 1) (h + nx) wr.heap.size wz0.heap.size wz1.heap.size zs t3 _ (.slice s3 lz c3) rfl HOwn2.out (by have := HBe0.out.size; omega) HK2.out (by have := HSz2.out; omega) rfl _ _ _ rfl rfl (by rw [tCell, HQ3.out.k, HQ3.out.n, HQ3.out.s]; exact HSr.out) (by have := HLn.out; omega) ?_
                  intro v5 w5 hg5 hon5
                  obtain ⟨s5, c5, hv5⟩ := hg5.slice
                  obtain ⟨l5, hl5⟩ : ∃ l, (zs ++ [t3]).length = l := ⟨_, rfl⟩
                  rw [hl5] at hv5
                  subst hv5
                  clear hl5
                  have hbo : ∀ r, (Value.slice sk zs.length ck).ownBlock = some r → w.heap.size + 1 + 1 + 1 + 1 ≤ r := fun r hr => (HOwn2.out.blk hr).1
                  have HRo5 := hid (row_only HRo2.out (fun hb => by have := hbo _ hb; omega) hon5)
                  have HBe5 := hid (HBe2.out.trans (hon5.below (by have := HBe2.out.size; omega) (fun b hb => by have := hbo _ hb; omega)))
                  have HG5 := hid hg5
                  refine hK.out _ _ (HSx.out _ HBe5.out) (fun hHeld => ?_)
                  clear hK K hg5 hbo HOwn2 HRo2 HK2 hon5
                  (try simp only [Act.put, List.setIfInBounds_toArray, List.set_cons_zero, List.set_cons_succ])
                  refine wpAnyH_take (i := 12) (v := _) rfl (by kernel_rfl) (by kernel_rfl) (by kernel_rfl) (fun _ _ _ h => h) (Or.inl ⟨by rfl, by (intro w hSw; (try dsimp only at hSw); go_simp; first | done | with_reducible rfl)⟩) hHeld ?_
                  (try simp only [Act.put, List.setIfInBounds_toArray, List.set_cons_zero, List.set_cons_succ])
                  refine wpAnyH_ready (rs := [13]) (by kernel_rfl) (by simp) ?_
                  refine AllReadyH.cons rfl (fun K hK => ?_) ?_
                  · have o3 := HRo5.out.cell 3
                    simp at o3
                    have hof := HRo5.out.free
                    have hol := HRo5.out.lt
                    go_simp
                    have HBe6 := hid (HBe5.out.setCell (p := ⟨w.heap.size + 1 + 1 + 1, 3, none⟩) (by first | (simp; done) | (simp; omega)) (.slice s5 l5 c5))
                    refine hK.out _ _ (HSx.out _ HBe6.out) (fun hHeld => ?_)
                    clear hK K hHeld o3 hof
                    (try simp only [Act.put, List.setIfInBounds_toArray, List.set_cons_zero, List.set_cons_succ])
                    refine wpAnyH_done (by kernel_rfl) ?_ _
                    go_wp2_with fail
                    go_roundw
                    case rel => exact ⟨k + 1, .slice s5 l5 c5, by go_num, by omega, by rw [HSn.out]; exact (by rw [World.size_setCell]; exact HG5.out.keep (fun c h1 h2 h3 => Below.heap_setCell _ _ _ _ (by simp; omega))), HX.out.below HBe6.out (by omega), HY.out.below HBe6.out (by omega), HZ.out.below HBe6.out (by omega), row_set HRo5.out (.slice s5 l5 c5), (HBw.out.trans (HBe6.out.mono (by omega)))⟩
                    case measure => simp [intOf]; omega
                  exact AllReadyH.nil
                exact AllReadyH.nil
              exact AllReadyH.nil
            exact AllReadyH.nil
          refine AllReadyH.cons rfl (fun K hK => ?_) ?_
          · go_simp
            go_at_call 52
            refine (HCall.out _ HBe0.out).mono ?_
            rintro e wz1 ⟨v3, rfl, hown3, hb3⟩
            rw [HFt.out] at hown3 ⊢
            obtain ⟨s3, c3, rfl⟩ := hown3.slice
            rw [HQ3.out.val]
            rw [HQ3.out.l] at hown3 ⊢
            simp only
            have HBe1 := hid (HBe0.out.trans (hb3.mono (by have := HBe0.out.size; omega)))
            have HOwn1 := hid (HOwn0.out.on hb3)
            have HRo1 := hid (HRo0.out.on hb3)
            have HK1 := hid hown3
            have HSz1 := hid (show wr.heap.size ≤ wz1.heap.size by have := HBe0.out.size; have := hb3.size; omega)
            refine hK.out _ _ (HSx.out _ HBe1.out) (fun hHeld => ?_)
            clear hK K hown3 hb3 HOwn0 HRo0
            (try simp only [Act.put, List.setIfInBounds_toArray, List.set_cons_zero, List.set_cons_succ])
            refine wpAnyH_ready (rs := [1, 10]) (by kernel_rfl) (by simp) ?_
            refine AllReadyH.cons rfl (fun K hK => ?_) ?_
            · have o3 := HRo1.out.cell 3
              simp at o3
              have hol := HRo1.out.lt
              go_simp
              refine hK.out _ _ hHeld (fun _ => ?_)
              clear hK K o3 hol
              (try simp only [Act.put, List.setIfInBounds_toArray, List.set_cons_zero, List.set_cons_succ])
              refine wpAnyH_ready (rs := [10]) (by kernel_rfl) (by simp) ?_
              refine AllReadyH.cons rfl (fun K hK => ?_) ?_
              · go_simp
                have HBe2 := hid (HBe1.out.alloc (by have := HBe1.out.size; omega) (.cells #[.int .i64 z0, .int .i64 z1, .string z2, .slice s3 lz c3] 25))
                refine hK.out _ _ (HSx.out _ HBe2.out) (fun hHeld => ?_)
                clear hK K
                (try simp only [Act.put, List.setIfInBounds_toArray, List.set_cons_zero, List.set_cons_succ])
                have hal := (Below.refl wz1.heap.size wz1).alloc (Nat.le_refl _) (.cells #[.int .i64 z0, .int .i64 z1, .string z2, .slice s3 lz c3] 25)
                have HOwn2 := hid (HOwn1.out.on hal)
                have HRo2 := hid (HRo1.out.on hal)
                have HK2 := hid (HK1.out.on hal)
                have HSz2 := hid (show wz1.heap.size ≤ (wz1.alloc (.cells #[.int .i64 z0, .int .i64 z1, .string z2, .slice s3 lz c3] 25)).heap.size by simp)
                have HSr := hid (src_term wz1 z0 z1 z2 (.slice s3 lz c3) _ rfl)
                clear hal HOwn1 HRo1 HK1
                generalize wz1.alloc (.cells #[.int .i64 z0, .int .i64 z1, .string z2, .slice s3 lz c3] 25) = wz2 at HBe2 HOwn2 HRo2 HK2 HSz2 HSr hHeld ⊢
                refine wpAnyH_ready (rs := [11]) (by kernel_rfl) (by simp) ?_
                refine AllReadyH.cons rfl (fun K hK => ?_) ?_
                · refine stp_term wz2 rfl _ _ rfl (w.heap.size + 1 + 1 + 1 + 1) (h + nx) wr.heap.size wz0.heap.size wz1.heap.size zs t3 _ (.slice s3 lz c3) rfl HOwn2.out (by have := HBe0.out.size; omega) HK2.out (by have := HSz2.out; omega) rfl _ _ _ rfl rfl (by rw [tCell, HQ3.out.k, HQ3.out.n, HQ3.out.s]; exact HSr.out) (by have := HLn.out; omega) ?_
                  intro v5 w5 hg5 hon5
                  obtain ⟨s5, c5, hv5⟩ := hg5.slice
                  obtain ⟨l5, hl5⟩ : ∃ l, (zs ++ [t3]).length = l := ⟨_, rfl⟩
                  rw [hl5] at hv5
                  subst hv5
                  clear hl5
                  have hbo : ∀ r, (Value.slice sk zs.length ck).ownBlock = some r → w.heap.size + 1 + 1 + 1 + 1 ≤ r := fun r hr => (HOwn2.out.blk hr).1
                  have HRo5 := hid (row_only HRo2.out (fun hb => by have := hbo _ hb; omega) hon5)
                  have HBe5 := hid (HBe2.out.trans (hon5.below (by have := HBe2.out.size; omega) (fun b hb => by have := hbo _ hb; omega)))
                  have HG5 := hid hg5
                  refine hK.out _ _ (HSx.out _ HBe5.out) (fun hHeld => ?_)
                  clear hK K hg5 hbo HOwn2 HRo2 HK2 hon5
                  (try simp only [Act.put, List.setIfInBounds_toArray, List.set_cons_zero, List.set_cons_succ])
                  refine wpAnyH_take (i := 12) (v := _) rfl (by kernel_rfl) (by kernel_rfl) (by kernel_rfl) (fun _ _ _ h => h) (Or.inl ⟨by rfl, by (intro w hSw; (try dsimp only at hSw); go_simp; first | done | with_reducible rfl)⟩) hHeld ?_
                  (try simp only [Act.put, List.setIfInBounds_toArray, List.set_cons_zero, List.set_cons_succ])
                  refine wpAnyH_ready (rs := [13]) (by kernel_rfl) (by simp) ?_
                  refine AllReadyH.cons rfl (fun K hK => ?_) ?_
                  · have o3 := HRo5.out.cell 3
                    simp at o3
                    have hof := HRo5.out.free
                    have hol := HRo5.out.lt
                    go_simp
                    have HBe6 := hid (HBe5.out.setCell (p := ⟨w.heap.size + 1 + 1 + 1, 3, none⟩) (by first | (simp; done) | (simp; omega)) (.slice s5 l5 c5))
                    refine hK.out _ _ (HSx.out _ HBe6.out) (fun hHeld => ?_)
                    clear hK K hHeld o3 hof
                    (try simp only [Act.put, List.setIfInBounds_toArray, List.set_cons_zero, List.set_cons_succ])
                    refine wpAnyH_done (by kernel_rfl) ?_ _
                    go_wp2_with fail
                    go_roundw
                    case rel => exact ⟨k + 1, .slice s5 l5 c5, by go_num, by omega, by rw [HSn.out]; exact (by rw [World.size_setCell]; exact HG5.out.keep (fun c h1 h2 h3 => Below.heap_setCell _ _ _ _ (by simp; omega))), HX.out.below HBe6.out (by omega), HY.out.below HBe6.out (by omega), HZ.out.below HBe6.out (by omega), row_set HRo5.out (.slice s5 l5 c5), (HBw.out.trans (HBe6.out.mono (by omega)))⟩
                    case measure => simp [intOf]; omega
                  exact AllReadyH.nil
                exact AllReadyH.nil
              exact AllReadyH.nil
            refine AllReadyH.cons rfl (fun K hK => ?_) ?_
            · go_simp
              have HBe2 := hid (HBe1.out.alloc (by have := HBe1.out.size; omega) (.cells #[.int .i64 z0, .int .i64 z1, .string z2, .slice s3 lz c3] 25))
              refine hK.out _ _ (HSx.out _ HBe2.out) (fun hHeld => ?_)
              clear hK K
              (try simp only [Act.put, List.setIfInBounds_toArray, List.set_cons_zero, List.set_cons_succ])
              have hal := (Below.refl wz1.heap.size wz1).alloc (Nat.le_refl _) (.cells #[.int .i64 z0, .int .i64 z1, .string z2, .slice s3 lz c3] 25)
              have HOwn2 := hid (HOwn1.out.on hal)
              have HRo2 := hid (HRo1.out.on hal)
              have HK2 := hid (HK1.out.on hal)
              have HSz2 := hid (show wz1.heap.size ≤ (wz1.alloc (.cells #[.int .i64 z0, .int .i64 z1, .string z2, .slice s3 lz c3] 25)).heap.size by simp)
              have HSr := hid (src_term wz1 z0 z1 z2 (.slice s3 lz c3) _ rfl)
              clear hal HOwn1 HRo1 HK1
              generalize wz1.alloc (.cells #[.int .i64 z0, .int .i64 z1, .string z2, .slice s3 lz c3] 25) = wz2 at HBe2 HOwn2 HRo2 HK2 HSz2 HSr hHeld ⊢
              refine wpAnyH_ready (rs := [1]) (by kernel_rfl) (by simp) ?_
              refine AllReadyH.cons rfl (fun K hK => ?_) ?_
              · have o3 := HRo2.out.cell 3
                simp at o3
                have hol := HRo2.out.lt
                go_simp
                refine hK.out _ _ hHeld (fun _ => ?_)
                clear hK K o3 hol
                (try simp only [Act.put, List.setIfInBounds_toArray, List.set_cons_zero, List.set_cons_succ])
                refine wpAnyH_ready (rs := [11]) (by kernel_rfl) (by simp) ?_
                refine AllReadyH.cons rfl (fun K hK => ?_) ?_
                · refine stp_term wz2 rfl _ _ rfl (w.heap.size + 1 + 1 + 1 + 1) (h + nx) wr.heap.size wz0.heap.size wz1.heap.size zs t3 _ (.slice s3 lz c3) rfl HOwn2.out (by have := HBe0.out.size; omega) HK2.out (by have := HSz2.out; omega) rfl _ _ _ rfl rfl (by rw [tCell, HQ3.out.k, HQ3.out.n, HQ3.out.s]; exact HSr.out) (by have := HLn.out; omega) ?_
                  intro v5 w5 hg5 hon5
                  obtain ⟨s5, c5, hv5⟩ := hg5.slice
                  obtain ⟨l5, hl5⟩ : ∃ l, (zs ++ [t3]).length = l := ⟨_, rfl⟩
                  rw [hl5] at hv5
                  subst hv5
                  clear hl5
                  have hbo : ∀ r, (Value.slice sk zs.length ck).ownBlock = some r → w.heap.size + 1 + 1 + 1 + 1 ≤ r := fun r hr => (HOwn2.out.blk hr).1
                  have HRo5 := hid (row_only HRo2.out (fun hb => by have := hbo _ hb; omega) hon5)
                  have HBe5 := hid (HBe2.out.trans (hon5.below (by have := HBe2.out.size; omega) (fun b hb => by have := hbo _ hb; omega)))
                  have HG5 := hid hg5
                  refine hK.out _ _ (HSx.out _ HBe5.out) (fun hHeld => ?_)
                  clear hK K hg5 hbo HOwn2 HRo2 HK2 hon5
                  (try simp only [Act.put, List.setIfInBounds_toArray, List.set_cons_zero, List.set_cons_succ])
                  refine wpAnyH_take (i := 12) (v := _) rfl (by kernel_rfl) (by kernel_rfl) (by kernel_rfl) (fun _ _ _ h => h) (Or.inl ⟨by rfl, by (intro w hSw; (try dsimp only at hSw); go_simp; first | done | with_reducible rfl)⟩) hHeld ?_
                  (try simp only [Act.put, List.setIfInBounds_toArray, List.set_cons_zero, List.set_cons_succ])
                  refine wpAnyH_ready (rs := [13]) (by kernel_rfl) (by simp) ?_
                  refine AllReadyH.cons rfl (fun K hK => ?_) ?_
                  · have o3 := HRo5.out.cell 3
                    simp at o3
                    have hof := HRo5.out.free
                    have hol := HRo5.out.lt
                    go_simp
                    have HBe6 := hid (HBe5.out.setCell (p := ⟨w.heap.size + 1 + 1 + 1, 3, none⟩) (by first | (simp; done) | (simp; omega)) (.slice s5 l5 c5))
                    refine hK.out _ _ (HSx.out _ HBe6.out) (fun hHeld => ?_)
                    clear hK K hHeld o3 hof
                    (try simp only [Act.put, List.setIfInBounds_toArray, List.set_cons_zero, List.set_cons_succ])
                    refine wpAnyH_done (by kernel_rfl) ?_ _
                    go_wp2_with fail
                    go_roundw
                    case rel => exact ⟨k + 1, .slice s5 l5 c5, by go_num, by omega, by rw [HSn.out]; exact (by rw [World.size_setCell]; exact HG5.out.keep (fun c h1 h2 h3 => Below.heap_setCell _ _ _ _ (by simp; omega))), HX.out.below HBe6.out (by omega), HY.out.below HBe6.out (by omega), HZ.out.below HBe6.out (by omega), row_set HRo5.out (.slice s5 l5 c5), (HBw.out.trans (HBe6.out.mono (by omega)))⟩
                    case measure => simp [intOf]; omega
                  exact AllReadyH.nil
                exact AllReadyH.nil
              exact AllReadyH.nil
            exact AllReadyH.nil
          exact AllReadyH.nil
        · obtain rfl : k = ks.length := by omega
          rw [List.take_length] at HOwn
          have HLz := hid (show (ks.map (putT s x h)).length = ks.length by simp)
          obtain ⟨zs, hzs⟩ : ∃ l, ks.map (putT s x h) = l := ⟨_, rfl⟩
          rw [hzs] at HOwn HLz
          have HZs := hid hzs
          obtain ⟨sk, ck, rfl⟩ := HOwn.out.slice
          have o0 := HRo.out.cell 0
          have o1 := HRo.out.cell 1
          have o2 := HRo.out.cell 2
          have o3 := HRo.out.cell 3
          have r0 := HZ.out.cell 0
          have r1 := HZ.out.cell 1
          have r2 := HZ.out.cell 2
          have r3 := HZ.out.cell 3
          simp at o0 o1 o2 o3 r0 r1 r2 r3
          have hfr := HZ.out.free
          clear hzs hk hlt
          go_wp2_with fail
          clear o0 o1 o2 o3 r0 r1 r2 r3 hfr d3
          have HR6 := hid (four_row HZ.out (.int .i64 x0) (.int .i64 x1) (.string x2) (.slice sk zs.length ck))
          refine bodyPost_ret (v := .agg #[.int .i64 x0, .int .i64 x1, .string x2, .slice sk zs.length ck])
            (results_cell_row Tryd.results52 _ _ (w.heap.size + 1 + 1) 25 #[.int .i64 x0, .int .i64 x1, .string x2, .slice sk zs.length ck] (0, 0) _ rfl HR6.out Tryd.underlying25 rfl size_term) rfl ?_
          refine ⟨.slice sk zs.length ck, by rw [HPv.out _ HNo.out], ?_, four_bel HBw.out (by omega) _ _ _ _⟩
          rw [four_size, HPk.out HNo.out, HZs.out]
          refine (KOwn.mono (n := h + nx + 1) (HOwn.out.keep (fun b h1 h2 h3 => ?_)) (by omega)).widen (by omega) (Nat.le_refl _)
          rw [four_far _ _ _ (by omega)]
end Go.Proofs.YtgenojpdjplccaaDoor.Um
