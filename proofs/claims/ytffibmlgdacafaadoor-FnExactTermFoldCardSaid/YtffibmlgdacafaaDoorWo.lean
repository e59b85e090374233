/- Simpler terms: folded of the model. -/
import Derived.Test.YtffibmlgdacafaaDoorWn
import Derived.Test.YtffibmlgdacafaaDoorWi
import Derived.Deep.RegionHeld3
import Derived.IntWalk
set_option linter.unusedSimpArgs false
set_option linter.unusedVariables false
namespace Go.Proofs.YtffibmlgdacafaaDoor.Um
open Go.RowKit Go.MapKept Pl Ft Mm In C2 Im

theorem row_set3 {w : World} {g : Nat} {t : TypeId} {x0 x1 x2 x3 : Value} (h : Row w g t #[x0, x1, x2, x3]) (v : Value) : Row (w.setCell ⟨g, 3, none⟩ v) g t #[x0, x1, x2, v] := h.set 3 v
/-- A row of terms of one's own, whose parts are read out of other blocks from B on. -/
def RowK (w : World) (B n : Nat) (v : Value) (ks : List Tm) : Prop :=
  ∃ us : List Value, us.length = ks.length ∧ w.ownsRow B 28 4 v ks.length (tCells ks us) ∧ ∀ j, j < ks.length → KP (fun b => B ≤ b ∧ v.ownBlock ≠ some b) w n (us.getD j vz) (ks.getD j tz).kids
theorem RowK.slice {w : World} {B n : Nat} {v : Value} {ks : List Tm} (h : RowK w B n v ks) : ∃ a cap, v = .slice a ks.length cap := by
  obtain ⟨us, _, h, _⟩ := h
  exact own_slice h
theorem RowK.on {w w' : World} {B n : Nat} {v : Value} {ks : List Tm} (h : RowK w B n v ks) (hb : Below w.heap.size w w') : RowK w' B n v ks := by
  obtain ⟨us, h1, h2, h3⟩ := h
  exact ⟨us, h1, own_on h2 hb, fun j hj => (h3 j hj).on hb⟩
theorem RowK.blk {w : World} {B n : Nat} {v : Value} {ks : List Tm} (h : RowK w B n v ks) {r : Nat} (hr : v.ownBlock = some r) : B ≤ r ∧ r < w.heap.size := by
  obtain ⟨us, _, h, _⟩ := h
  exact h.lt r hr
theorem RowK.box {w : World} {B n : Nat} {v : Value} {ks : List Tm} (h : RowK w B n v ks) {g : Nat} (hg : g < B) (i : Nat) (u : Value) : RowK (w.setCell ⟨g, i, none⟩ u) B n v ks := by
  obtain ⟨us, h1, h2, h3⟩ := h
  refine ⟨us, h1, own_same h2 (fun b hb => Below.heap_setCell _ _ _ _ (by have := (h2.lt b hb).1; show b ≠ g; omega)), fun j hj => (h3 j hj).keep (by rw [World.size_setCell]; exact Nat.le_refl _) (fun b hb _ => Below.heap_setCell _ _ _ _ (by show b ≠ g; omega))⟩
theorem RowK.kp {w : World} {B n : Nat} {v : Value} {ks : List Tm} (h : RowK w B n v ks) : KP (fun b => B ≤ b) w (n + 1) v ks := by
  obtain ⟨us, h1, h2, h3⟩ := h
  exact kp_row h2 rfl h1 (fun b hb => hb) (fun j hj => (h3 j hj).weak (fun b _ hb => hb.1))
theorem RowK.empty {w : World} {B n : Nat} : RowK w B n (.slice none 0 0) [] := ⟨[], rfl, ⟨by simp [tCells], .inl ⟨rfl, rfl⟩⟩, fun j hj => by simp at hj⟩
section
variable {ops : Array Oper} {rest : List Oper} {o : Oper} {a : Act} {Q : Exit → Act → World → Prop} (w : World)
theorem stp_rowk {K : Act → World → Prop} {E : Prop} (hgd : o.guard = none) (s x : Operand)
    (ho : o.op = .call { callee := .builtin .append, args := #[s, x], argTypes := #[26, 26] })
    (B n : Nat) (ks : List Tm) (t : Tm) (v u : Value) (hs : a.eval s = v) (hown : RowK w B n v ks) (hB : B ≤ w.heap.size) (hkid : KP (fun b => B ≤ b ∧ v.ownBlock ≠ some b) w n u t.kids) (hu : u.oneCell' = true)
    (A : Option Addr) (m c : Nat) (hx : a.eval x = .slice A m c) (hm : m = 1) (hsrc : SrcAt w A 1 4 (tCell t u)) (hl : ks.length ≤ 1000000)
    (h : ∀ v' w', RowK w' B n v' (ks ++ [t]) → Only (fun g => v.ownBlock = some g) w w' → K (a.put o.dst v') w') : if Region.wanted o (yielded ops a.tmps) = true then Oper.wp Tryd.prog o a w K Q else E := by
  obtain ⟨i0, hi0, hz0, hz1, hz2⟩ := info_parts info_term
  subst hm
  obtain ⟨us, hlen, hrow, hk⟩ := hown
  refine step_app w hgd s x 26 ho B 28 i0 (.agg #[.int .i64 0, .int .i64 0, .string ⟨#[]⟩, .slice none 0 0]) 4 56 Tryd.underlying26 hi0 hz0 hz1 hz2 rfl (by decide) v ks.length (tCells ks us) hs hrow A 1 c (tCell t u) hx hsrc ?_ (by simp only [maxLen]; omega) (by omega) hB
    (fun v' w' h1 h2 h3 => h v' w' ?_ ⟨h2.os, h2.tape, h2.output, h2.size, fun k hk hne => h2.block k hk (fun e => hne e.symm)⟩)
  · intro y hy
    simp only [tCell, List.mem_cons, List.not_mem_nil, or_false] at hy
    rcases hy with rfl | rfl | rfl | rfl
    · rfl
    · rfl
    · rfl
    · exact hu
  · have hpass : ∀ {u' : Value} {l : List Tm}, KP (fun b => B ≤ b ∧ v.ownBlock ≠ some b) w n u' l → KP (fun b => B ≤ b ∧ v'.ownBlock ≠ some b) w' n u' l := fun hkp => by
      refine ((hkp.weak (Q := fun b => (B ≤ b ∧ v.ownBlock ≠ some b) ∧ b < w.heap.size) (fun b h1 h2 => ⟨h2, h1⟩)).keep h2.size (fun b hb hlt => h2.block b hlt (fun e => hb.1.2 e.symm))).weak (fun b _ hb => ⟨hb.1.1, ?_⟩)
      rcases h3 with e | e
      · rw [e]; exact hb.1.2
      · rw [e]; intro he; have := Option.some.inj he; omega
    refine ⟨us ++ [u], by simp [hlen], ?_, fun j hj => ?_⟩
    · rw [List.length_append, tCells_snoc ks us t u hlen]
      exact h1
    · rw [List.length_append, List.length_singleton] at hj
      by_cases hjk : j = ks.length
      · rw [getD_snoc hlen, if_neg (by omega), if_pos hjk, getD_app, if_neg (by omega), if_pos hjk]
        exact hpass hkid
      · rw [getD_snoc hlen, if_pos (by omega), getD_app, if_pos (by omega)]
        exact hpass (hk j (by omega))
end
def FdPost (m : Nat) (t : Tm) (w : World) (e : Ending) (w' : World) : Prop := ∃ v', e = .returned (tmVal t v') ∧ KP (fun b => w.heap.size ≤ b) w' m v' t.kids ∧ Below w.heap.size w w'
set_option maxRecDepth 100000 in
set_option maxHeartbeats 16000000 in
theorem sFolded_c (h : Nat) : ∀ (n : Nat) (t : Tm) (kv : Value) (w : World), KRd w n kv t.kids → shape h t = true → h ≤ 14 →
    Calls Tryd.prog 36 #[tmVal t kv] w (FdPost h t.fold w) := by
  induction h with
  | zero => intro n t kv w _ hs; simp [shape] at hs
  | succ h ih =>
    intro n t kv w hr hs h14
    obtain ⟨hf, hks⟩ := shape_at hs
    have hsz : t.size < 2 ^ (h + 1) := shape_size _ _ hs
    have hpw : 2 ^ (h + 1) ≤ 2 ^ 14 := Nat.pow_le_pow_right (by omega) h14
    have HI := hid ih
    have HR := hid hr
    have HSh := hid hks
    have hk2 := form_kids hf
    obtain ⟨hfs, hfz⟩ := fold_first hs
    obtain ⟨a, cap, rfl⟩ := hr.slice
    clear ih hr hs hks hf
    obtain ⟨x0, x1, x2, lk, hp⟩ := Pt.of t
    obtain ⟨ms, hms⟩ : ∃ l, t.kids.map Tm.fold = l := ⟨_, rfl⟩
    have HFin := hid (fold_one (r := .mk x0 x1 x2 ms) hms (by rw [hp.k, hp.n, hp.s]))
    have HFs := hid (show shape (h + 1) (.mk x0 x1 x2 ms) = true by rw [← hms, ← hp.k, ← hp.n, ← hp.s]; exact hfs)
    have HFz := hid (show (Tm.mk x0 x1 x2 ms).size ≤ 20000 by rw [← hms, ← hp.k, ← hp.n, ← hp.s]; omega)
    rw [hp.val]
    rw [hp.l] at hk2 HR ⊢
    have hlk := hp.l
    clear hp hfs hfz hsz hpw
    obtain ⟨ks, hks⟩ : ∃ l, t.kids = l := ⟨_, rfl⟩
    rw [hks] at HR hlk HSh hms
    clear hks
    subst hlk
    have HMs := hid hms
    clear hms
    have hb1 := (Below.refl w.heap.size w).alloc (Nat.le_refl _) (.cells #[.int .i64 x0, .int .i64 x1, .string x2, .slice a ks.length cap] 28)
    have hb2 := hb1.alloc hb1.size (.cells #[.int .i64 0, .int .i64 0, .string ⟨#[]⟩, .slice none 0 0] 28)
    have HB1 := hid (hb2.alloc hb2.size (.cells #[.int .i64 x0, .int .i64 x1, .string x2, .slice none 0 0] 28))
    have HX1 := hid (((Row.new w 28 #[.int .i64 x0, .int .i64 x1, .string x2, .slice a ks.length cap]).alloc (.cells #[.int .i64 0, .int .i64 0, .string ⟨#[]⟩, .slice none 0 0] 28)).alloc (.cells #[.int .i64 x0, .int .i64 x1, .string x2, .slice none 0 0] 28))
    have HZ1 := hid ((Row.new (w.alloc (.cells #[.int .i64 x0, .int .i64 x1, .string x2, .slice a ks.length cap] 28)) 28 #[.int .i64 0, .int .i64 0, .string ⟨#[]⟩, .slice none 0 0]).alloc (.cells #[.int .i64 x0, .int .i64 x1, .string x2, .slice none 0 0] 28))
    have HRo1 := hid (Row.new ((w.alloc (.cells #[.int .i64 x0, .int .i64 x1, .string x2, .slice a ks.length cap] 28)).alloc (.cells #[.int .i64 0, .int .i64 0, .string ⟨#[]⟩, .slice none 0 0] 28)) 28 #[.int .i64 x0, .int .i64 x1, .string x2, .slice none 0 0])
    simp only [World.size_alloc] at HZ1 HRo1
    clear hb1 hb2
    go_enter Tryd.func36, Tryd.ntmps36
    go_wp2_with fail
    go_loopw [4] (fun i wr => ∃ (k : Nat) (vk : Value), i = .int .i64 k ∧ k ≤ ks.length ∧ RowK wr (w.heap.size + 1 + 1 + 1) h vk ((ks.take k).map Tm.fold) ∧ w.heap.size + 1 + 1 + 1 ≤ wr.heap.size ∧ Row wr w.heap.size 28 #[.int .i64 x0, .int .i64 x1, .string x2, .slice a ks.length cap] ∧ Row wr (w.heap.size + 1) 28 #[.int .i64 0, .int .i64 0, .string ⟨#[]⟩, .slice none 0 0] ∧ Row wr (w.heap.size + 1 + 1) 28 #[.int .i64 x0, .int .i64 x1, .string x2, vk] ∧ Below w.heap.size w wr) (fun i _ => ks.length - (intOf i).toNat)
    case atStart => exact ⟨0, .slice none 0 0, rfl, by omega, RowK.empty, by simp, HX1.out, HZ1.out, HRo1.out, HB1.out⟩
    case round =>
      obtain ⟨k, vk, rfl, hk, hown, hlw, hrx, hrz, hro, hbel⟩ := hrel
      have HOwn := hid hown
      have HLw := hid hlw
      have HX := hid hrx
      have HZ := hid hrz
      have HRo := hid hro
      have HBw := hid hbel
      have hz := hbel.size
      have hlx := hrx.lt
      have d3 := hrx.cell 3
      simp at d3
      clear hown hrx hrz hro hbel
      by_cases hlt : k < ks.length
      · obtain ⟨m, b, o, cap', rfl, hv, hg, hc⟩ := HR.out.cells (by omega)
        simp only [Value.slice.injEq, true_and] at hv
        obtain ⟨rfl, rfl⟩ := hv
        obtain ⟨u, c0, c1, c2, c3, hru⟩ := hc k hlt
        have HSn := hid (maps_snoc (f := Tm.fold) hlt)
        have HLn := hid (show ((ks.take k).map Tm.fold).length ≤ 2 by rw [List.length_map, List.length_take]; omega)
        have HShk := hid (HSh.out k hlt)
        obtain ⟨t2, ht⟩ : ∃ t, ks.getD k tz = t := ⟨_, rfl⟩
        rw [ht] at c0 c1 c2 hru HSn HShk
        obtain ⟨su, cu, rfl⟩ := hru.slice
        obtain ⟨y0, y1, y2, ly, hq⟩ := Pt.of t2
        rw [hq.k] at c0
        rw [hq.n] at c1
        rw [hq.s] at c2
        rw [hq.l] at c3 hru
        have HRu := hid hru
        have HQ := hid hq
        obtain ⟨zs, hzs⟩ : ∃ l, (ks.take k).map Tm.fold = l := ⟨_, rfl⟩
        rw [hzs] at HOwn HSn HLn
        obtain ⟨sk, ck, rfl⟩ := HOwn.out.slice
        have HBlk := hid (fun r hr => HOwn.out.blk (r := r) hr)
        obtain ⟨t3, hft⟩ : ∃ r, t2.fold = r := ⟨_, rfl⟩
        have HFt := hid hft
        obtain ⟨z0, z1, z2, lz, hq3⟩ := Pt.of t3
        have HQ3 := hid hq3
        rw [hft] at HSn
        have HCall := hid (fun (wx : World) (hbx : Below (w.heap.size + 1 + 1) wr wx) => (show Calls Tryd.prog 36 #[.agg #[.int .i64 y0, .int .i64 y1, .string y2, .slice su ly cu]] wx (FdPost h t2.fold wx) by
          have hbw := HBw.out.trans (hbx.mono (show w.heap.size ≤ w.heap.size + 1 + 1 by omega))
          have := HI.out m t2 (.slice su ly cu) wx (HRu.out.on hbw) HShk.out (by omega)
          rw [HQ.out.val] at this
          exact this))
        have HSx := hid (fun (wx : World) (hbx : Below (w.heap.size + 1 + 1) wr wx) => (show wx.cell? ⟨w.heap.size, 3, none⟩ = some (.slice (some ⟨b, o, none⟩) ks.length cap) ∧ wx.cell? ⟨b, o + k * 4, none⟩ = some (.int .i64 y0) ∧ wx.cell? ⟨b, o + k * 4 + 1, none⟩ = some (.int .i64 y1) ∧ wx.cell? ⟨b, o + k * 4 + 2, none⟩ = some (.string y2) ∧ wx.cell? ⟨b, o + k * 4 + 3, none⟩ = some (.slice su ly cu) from by
          have hbw := HBw.out.trans (hbx.mono (show w.heap.size ≤ w.heap.size + 1 + 1 by omega))
          have t3 := (HX.out.below hbx (by omega)).cell 3
          exact ⟨t3, (hbw.cell (p := ⟨b, o + k * 4, none⟩) hg).trans c0, (hbw.cell (p := ⟨b, o + k * 4 + 1, none⟩) hg).trans c1, (hbw.cell (p := ⟨b, o + k * 4 + 2, none⟩) hg).trans c2, (hbw.cell (p := ⟨b, o + k * 4 + 3, none⟩) hg).trans c3⟩))
        have HBe0 := hid (show Below (w.heap.size + 1 + 1) wr wr.drew from (Below.refl wr.heap.size wr).drew.mono (by omega))
        have hk0 : 0 ≤ (k : Int) := by omega
        have hk1 : (k : Int) < ks.length := by omega
        clear hc c0 c1 c2 c3 hru ht hq hzs hft hq3
        go_upto_region 6 with fail
        clear d3
        refine wp_region_held_drew (S := fun w' => w'.cell? ⟨w.heap.size, 3, none⟩ = some (.slice (some ⟨b, o, none⟩) ks.length cap) ∧ w'.cell? ⟨b, o + k * 4, none⟩ = some (.int .i64 y0) ∧ w'.cell? ⟨b, o + k * 4 + 1, none⟩ = some (.int .i64 y1) ∧ w'.cell? ⟨b, o + k * 4 + 2, none⟩ = some (.string y2) ∧ w'.cell? ⟨b, o + k * 4 + 3, none⟩ = some (.slice su ly cu)) (by kernel_rfl) (HSx.out _ HBe0.out) (fun hHeld => ?_)
        refine wpAnyH_take (i := 0) (v := _) rfl (by kernel_rfl) (by kernel_rfl) (by kernel_rfl) (fun _ _ _ h => h) (Or.inl ⟨by rfl, by (intro w hSw; (try dsimp only at hSw); go_simp; first | done | with_reducible rfl)⟩) hHeld ?_
        (try simp only [Act.put, List.setIfInBounds_toArray, List.set_cons_zero, List.set_cons_succ])
        refine wpAnyH_take (i := 2) (v := _) rfl (by kernel_rfl) (by kernel_rfl) (by kernel_rfl) (fun _ _ _ h => h) (Or.inl ⟨by rfl, by (intro w hSw; (try dsimp only at hSw); go_simp; first | done | with_reducible rfl)⟩) hHeld ?_
        (try simp only [Act.put, List.setIfInBounds_toArray, List.set_cons_zero, List.set_cons_succ])
        refine wpAnyH_take (i := 3) (v := _) rfl (by kernel_rfl) (by kernel_rfl) (by kernel_rfl) (fun _ _ _ h => h) (Or.inl ⟨by rfl, by (intro w hSw; (try dsimp only at hSw); go_simp; first | done | with_reducible rfl)⟩) hHeld ?_
        (try simp only [Act.put, List.setIfInBounds_toArray, List.set_cons_zero, List.set_cons_succ])
        refine wpAnyH_take (i := 4) (v := _) rfl (by kernel_rfl) (by kernel_rfl) (by kernel_rfl) (fun _ _ _ h => h) (Or.inl ⟨by rfl, by (intro w hSw; (try dsimp only at hSw); go_simp; first | done | with_reducible rfl)⟩) hHeld ?_
        (try simp only [Act.put, List.setIfInBounds_toArray, List.set_cons_zero, List.set_cons_succ])
        refine wpAnyH_take (i := 5) (v := _) rfl (by kernel_rfl) (by kernel_rfl) (by kernel_rfl) (fun _ _ _ h => h) (Or.inl ⟨by rfl, by (intro w hSw; (try dsimp only at hSw); go_simp; first | done | with_reducible rfl)⟩) hHeld ?_
        (try simp only [Act.put, List.setIfInBounds_toArray, List.set_cons_zero, List.set_cons_succ])
        refine wpAnyH_take (i := 6) (v := _) rfl (by kernel_rfl) (by kernel_rfl) (by kernel_rfl) (fun _ _ _ h => h) (Or.inl ⟨by rfl, by (intro w hSw; (try dsimp only at hSw); go_simp; first | done | with_reducible rfl)⟩) hHeld ?_
        (try simp only [Act.put, List.setIfInBounds_toArray, List.set_cons_zero, List.set_cons_succ])
        have HOwn0 := hid (HOwn.out.on (Below.refl wr.heap.size wr).drew)
        have HRo0 := hid (HRo.out.on (Below.refl wr.heap.size wr).drew)
        generalize wr.drew = wz0 at HBe0 HOwn0 HRo0 hHeld ⊢
        refine wpAnyH_ready (rs := [1, 7]) (by kernel_rfl) (by simp) ?_
        refine AllReadyH.cons rfl (fun K hK => ?_) ?_
        · have o3 := HRo0.out.cell 3
          simp at o3
          have hol := HRo0.out.lt
          go_simp
          refine hK.out _ _ hHeld (fun _ => ?_)
          clear hK K o3 hol
          (try simp only [Act.put, List.setIfInBounds_toArray, List.set_cons_zero, List.set_cons_succ])
          refine wpAnyH_ready (rs := [7]) (by kernel_rfl) (by simp) ?_
          refine AllReadyH.cons rfl (fun K hK => ?_) ?_
          · go_simp
            go_at_call 36
            refine (HCall.out _ HBe0.out).mono ?_
            rintro e wz1 ⟨v3, rfl, hown3, hb3⟩
            rw [HFt.out] at hown3 ⊢
            obtain ⟨s3, c3, rfl⟩ := hown3.slice
            rw [HQ3.out.val]
            rw [HQ3.out.l] at hown3 ⊢
            simp only
            have HBe1 := hid (HBe0.out.trans (hb3.mono (by have := HBe0.out.size; omega)))
            have HOwn1 := hid (HOwn0.out.on hb3)
            have HRo1 := hid (HRo0.out.on hb3)
            have HK1 := hid (hown3.weak (Q := fun b => wr.heap.size ≤ b) (fun b _ hb => by have := HBe0.out.size; omega))
            refine hK.out _ _ (HSx.out _ HBe1.out) (fun hHeld => ?_)
            clear hK K hown3 hb3 HOwn0 HRo0
            (try simp only [Act.put, List.setIfInBounds_toArray, List.set_cons_zero, List.set_cons_succ])
            refine wpAnyH_ready (rs := [8]) (by kernel_rfl) (by simp) ?_
            refine AllReadyH.cons rfl (fun K hK => ?_) ?_
            · go_simp
              have HBe2 := hid (HBe1.out.alloc (by have := HBe1.out.size; omega) (.cells #[.int .i64 z0, .int .i64 z1, .string z2, .slice s3 lz c3] 28))
              refine hK.out _ _ (HSx.out _ HBe2.out) (fun hHeld => ?_)
              clear hK K
              (try simp only [Act.put, List.setIfInBounds_toArray, List.set_cons_zero, List.set_cons_succ])
              have hal := (Below.refl wz1.heap.size wz1).alloc (Nat.le_refl _) (.cells #[.int .i64 z0, .int .i64 z1, .string z2, .slice s3 lz c3] 28)
              have HOwn2 := hid (HOwn1.out.on hal)
              have HRo2 := hid (HRo1.out.on hal)
              have HK2 := hid (HK1.out.on hal)
              have HSr := hid (src_term wz1 z0 z1 z2 (.slice s3 lz c3) _ rfl)
              clear hal HOwn1 HRo1 HK1
              generalize wz1.alloc (.cells #[.int .i64 z0, .int .i64 z1, .string z2, .slice s3 lz c3] 28) = wz2 at HBe2 HOwn2 HRo2 HK2 HSr hHeld ⊢
              refine wpAnyH_ready (rs := [9]) (by kernel_rfl) (by simp) ?_
              refine AllReadyH.cons rfl (fun K hK => ?_) ?_
              · refine stp_rowk wz2 rfl _ _ rfl (w.heap.size + 1 + 1 + 1) (h) zs t3 _ (.slice s3 lz c3) rfl HOwn2.out (by have := HBe2.out.size; have := HLw.out; omega) (HK2.out.weak (fun b _ hb => ⟨by have := HLw.out; omega, fun he => by have := (HBlk.out b he).2; omega⟩)) rfl _ _ _ rfl rfl (by rw [tCell, HQ3.out.k, HQ3.out.n, HQ3.out.s]; exact HSr.out) (by have := HLn.out; omega) ?_
                intro v5 w5 hg5 hon5
                obtain ⟨s5, c5, hv5⟩ := hg5.slice
                obtain ⟨l5, hl5⟩ : ∃ l, (zs ++ [t3]).length = l := ⟨_, rfl⟩
                rw [hl5] at hv5
                subst hv5
                clear hl5
                have hbo : ∀ r, (Value.slice sk zs.length ck).ownBlock = some r → w.heap.size + 1 + 1 + 1 ≤ r := fun r hr => (HBlk.out r hr).1
                have HRo5 := hid (row_only HRo2.out (fun hb => by have := hbo _ hb; omega) hon5)
                have HBe5 := hid (HBe2.out.trans (hon5.below (by have := HBe2.out.size; omega) (fun b hb => by have := hbo _ hb; omega)))
                have HG5 := hid hg5
                refine hK.out _ _ (HSx.out _ HBe5.out) (fun hHeld => ?_)
                clear hK K hg5 hbo HOwn2 HRo2 HK2 hon5
                (try simp only [Act.put, List.setIfInBounds_toArray, List.set_cons_zero, List.set_cons_succ])
                refine wpAnyH_take (i := 10) (v := _) rfl (by kernel_rfl) (by kernel_rfl) (by kernel_rfl) (fun _ _ _ h => h) (Or.inl ⟨by rfl, by (intro w hSw; (try dsimp only at hSw); go_simp; first | done | with_reducible rfl)⟩) hHeld ?_
                (try simp only [Act.put, List.setIfInBounds_toArray, List.set_cons_zero, List.set_cons_succ])
                refine wpAnyH_ready (rs := [11]) (by kernel_rfl) (by simp) ?_
                refine AllReadyH.cons rfl (fun K hK => ?_) ?_
                · have o3 := HRo5.out.cell 3
                  simp at o3
                  have hof := HRo5.out.free
                  have hol := HRo5.out.lt
                  go_simp
                  have HBe6 := hid (HBe5.out.setCell (p := ⟨w.heap.size + 1 + 1, 3, none⟩) (by first | (simp; done) | (simp; omega)) (.slice s5 l5 c5))
                  refine hK.out _ _ (HSx.out _ HBe6.out) (fun hHeld => ?_)
                  clear hK K hHeld o3 hof
                  (try simp only [Act.put, List.setIfInBounds_toArray, List.set_cons_zero, List.set_cons_succ])
                  refine wpAnyH_done (by kernel_rfl) ?_ _
                  go_wp2_with fail
                  go_roundw
                  case rel => exact ⟨k + 1, .slice s5 l5 c5, by go_num, by omega, by rw [HSn.out]; exact HG5.out.box (by omega) _ _, by rw [World.size_setCell]; have := HBe5.out.size; have := HLw.out; omega, HX.out.below HBe6.out (by omega), HZ.out.below HBe6.out (by omega), row_set3 HRo5.out (.slice s5 l5 c5), (HBw.out.trans (HBe6.out.mono (by omega)))⟩
                  case measure => simp [intOf]; omega
                exact AllReadyH.nil
              exact AllReadyH.nil
            exact AllReadyH.nil
          exact AllReadyH.nil
        refine AllReadyH.cons rfl (fun K hK => ?_) ?_
        · go_simp
          go_at_call 36
          refine (HCall.out _ HBe0.out).mono ?_
          rintro e wz1 ⟨v3, rfl, hown3, hb3⟩
          rw [HFt.out] at hown3 ⊢
          obtain ⟨s3, c3, rfl⟩ := hown3.slice
          rw [HQ3.out.val]
          rw [HQ3.out.l] at hown3 ⊢
          simp only
          have HBe1 := hid (HBe0.out.trans (hb3.mono (by have := HBe0.out.size; omega)))
          have HOwn1 := hid (HOwn0.out.on hb3)
          have HRo1 := hid (HRo0.out.on hb3)
          have HK1 := hid (hown3.weak (Q := fun b => wr.heap.size ≤ b) (fun b _ hb => by have := HBe0.out.size; omega))
          refine hK.out _ _ (HSx.out _ HBe1.out) (fun hHeld => ?_)
          clear hK K hown3 hb3 HOwn0 HRo0
          (try simp only [Act.put, List.setIfInBounds_toArray, List.set_cons_zero, List.set_cons_succ])
          refine wpAnyH_ready (rs := [1, 8]) (by kernel_rfl) (by simp) ?_
          refine AllReadyH.cons rfl (fun K hK => ?_) ?_
          · have o3 := HRo1.out.cell 3
            simp at o3
            have hol := HRo1.out.lt
            go_simp
            refine hK.out _ _ hHeld (fun _ => ?_)
            clear hK K o3 hol
            (try simp only [Act.put, List.setIfInBounds_toArray, List.set_cons_zero, List.set_cons_succ])
            refine wpAnyH_ready (rs := [8]) (by kernel_rfl) (by simp) ?_
            refine AllReadyH.cons rfl (fun K hK => ?_) ?_
            · go_simp
              have HBe2 := hid (HBe1.out.alloc (by have := HBe1.out.size; omega) (.cells #[.int .i64 z0, .int .i64 z1, .string z2, .slice s3 lz c3] 28))
              refine hK.out _ _ (HSx.out _ HBe2.out) (fun hHeld => ?_)
              clear hK K
              (try simp only [Act.put, List.setIfInBounds_toArray, List.set_cons_zero, List.set_cons_succ])
              have hal := (Below.refl wz1.heap.size wz1).alloc (Nat.le_refl _) (.cells #[.int .i64 z0, .int .i64 z1, .string z2, .slice s3 lz c3] 28)
              have HOwn2 := hid (HOwn1.out.on hal)
              have HRo2 := hid (HRo1.out.on hal)
              have HK2 := hid (HK1.out.on hal)
              have HSr := hid (src_term wz1 z0 z1 z2 (.slice s3 lz c3) _ rfl)
              clear hal HOwn1 HRo1 HK1
              generalize wz1.alloc (.cells #[.int .i64 z0, .int .i64 z1, .string z2, .slice s3 lz c3] 28) = wz2 at HBe2 HOwn2 HRo2 HK2 HSr hHeld ⊢
              refine wpAnyH_ready (rs := [9]) (by kernel_rfl) (by simp) ?_
              refine AllReadyH.cons rfl (fun K hK => ?_) ?_
              · refine stp_rowk wz2 rfl _ _ rfl (w.heap.size + 1 + 1 + 1) (h) zs t3 _ (.slice s3 lz c3) rfl HOwn2.out (by have := HBe2.out.size; have := HLw.out; omega) (HK2.out.weak (fun b _ hb => ⟨by have := HLw.out; omega, fun he => by have := (HBlk.out b he).2; omega⟩)) rfl _ _ _ rfl rfl (by rw [tCell, HQ3.out.k, HQ3.out.n, HQ3.out.s]; exact HSr.out) (by have := HLn.out; omega) ?_
                intro v5 w5 hg5 hon5
                obtain ⟨s5, c5, hv5⟩ := hg5.slice
                obtain ⟨l5, hl5⟩ : ∃ l, (zs ++ [t3]).length = l := ⟨_, rfl⟩
                rw [hl5] at hv5
                subst hv5
                clear hl5
                have hbo : ∀ r, (Value.slice sk zs.length ck).ownBlock = some r → w.heap.size + 1 + 1 + 1 ≤ r := fun r hr => (HBlk.out r hr).1
                have HRo5 := hid (row_only HRo2.out (fun hb => by have := hbo _ hb; omega) hon5)
                have HBe5 := hid (HBe2.out.trans (hon5.below (by have := HBe2.out.size; omega) (fun b hb => by have := hbo _ hb; omega)))
                have HG5 := hid hg5
                refine hK.out _ _ (HSx.out _ HBe5.out) (fun hHeld => ?_)
                clear hK K hg5 hbo HOwn2 HRo2 HK2 hon5
                (try simp only [Act.put, List.setIfInBounds_toArray, List.set_cons_zero, List.set_cons_succ])
                refine wpAnyH_take (i := 10) (v := _) rfl (by kernel_rfl) (by kernel_rfl) (by kernel_rfl) (fun _ _ _ h => h) (Or.inl ⟨by rfl, by (intro w hSw; (try dsimp only at hSw); go_simp; first | done | with_reducible rfl)⟩) hHeld ?_
                (try simp only [Act.put, List.setIfInBounds_toArray, List.set_cons_zero, List.set_cons_succ])
                refine wpAnyH_ready (rs := [11]) (by kernel_rfl) (by simp) ?_
                refine AllReadyH.cons rfl (fun K hK => ?_) ?_
                · have o3 := HRo5.out.cell 3
                  simp at o3
                  have hof := HRo5.out.free
                  have hol := HRo5.out.lt
                  go_simp
                  have HBe6 := hid (HBe5.out.setCell (p := ⟨w.heap.size + 1 + 1, 3, none⟩) (by first | (simp; done) | (simp; omega)) (.slice s5 l5 c5))
                  refine hK.out _ _ (HSx.out _ HBe6.out) (fun hHeld => ?_)
                  clear hK K hHeld o3 hof
                  (try simp only [Act.put, List.setIfInBounds_toArray, List.set_cons_zero, List.set_cons_succ])
                  refine wpAnyH_done (by kernel_rfl) ?_ _
                  go_wp2_with fail
                  go_roundw
                  case rel => exact ⟨k + 1, .slice s5 l5 c5, by go_num, by omega, by rw [HSn.out]; exact HG5.out.box (by omega) _ _, by rw [World.size_setCell]; have := HBe5.out.size; have := HLw.out; omega, HX.out.below HBe6.out (by omega), HZ.out.below HBe6.out (by omega), row_set3 HRo5.out (.slice s5 l5 c5), (HBw.out.trans (HBe6.out.mono (by omega)))⟩
                  case measure => simp [intOf]; omega
                exact AllReadyH.nil
              exact AllReadyH.nil
            exact AllReadyH.nil
          refine AllReadyH.cons rfl (fun K hK => ?_) ?_
          · go_simp
            have HBe2 := hid (HBe1.out.alloc (by have := HBe1.out.size; omega) (.cells #[.int .i64 z0, .int .i64 z1, .string z2, .slice s3 lz c3] 28))
            refine hK.out _ _ (HSx.out _ HBe2.out) (fun hHeld => ?_)
            clear hK K
            (try simp only [Act.put, List.setIfInBounds_toArray, List.set_cons_zero, List.set_cons_succ])
            have hal := (Below.refl wz1.heap.size wz1).alloc (Nat.le_refl _) (.cells #[.int .i64 z0, .int .i64 z1, .string z2, .slice s3 lz c3] 28)
            have HOwn2 := hid (HOwn1.out.on hal)
            have HRo2 := hid (HRo1.out.on hal)
            have HK2 := hid (HK1.out.on hal)
            have HSr := hid (src_term wz1 z0 z1 z2 (.slice s3 lz c3) _ rfl)
            clear hal HOwn1 HRo1 HK1
            generalize wz1.alloc (.cells #[.int .i64 z0, .int .i64 z1, .string z2, .slice s3 lz c3] 28) = wz2 at HBe2 HOwn2 HRo2 HK2 HSr hHeld ⊢
            refine wpAnyH_ready (rs := [1]) (by kernel_rfl) (by simp) ?_
            refine AllReadyH.cons rfl (fun K hK => ?_) ?_
            · have o3 := HRo2.out.cell 3
              simp at o3
              have hol := HRo2.out.lt
              go_simp
              refine hK.out _ _ hHeld (fun _ => ?_)
              clear hK K o3 hol
              (try simp only [Act.put, List.setIfInBounds_toArray, List.set_cons_zero, List.set_cons_succ])
              refine wpAnyH_ready (rs := [9]) (by kernel_rfl) (by simp) ?_
              refine AllReadyH.cons rfl (fun K hK => ?_) ?_
              · refine stp_rowk wz2 rfl _ _ rfl (w.heap.size + 1 + 1 + 1) (h) zs t3 _ (.slice s3 lz c3) rfl HOwn2.out (by have := HBe2.out.size; have := HLw.out; omega) (HK2.out.weak (fun b _ hb => ⟨by have := HLw.out; omega, fun he => by have := (HBlk.out b he).2; omega⟩)) rfl _ _ _ rfl rfl (by rw [tCell, HQ3.out.k, HQ3.out.n, HQ3.out.s]; exact HSr.out) (by have := HLn.out; omega) ?_
                intro v5 w5 hg5 hon5
                obtain ⟨s5, c5, hv5⟩ := hg5.slice
                obtain ⟨l5, hl5⟩ : ∃ l, (zs ++ [t3]).length = l := ⟨_, rfl⟩
                rw [hl5] at hv5
                subst hv5
                clear hl5
                have hbo : ∀ r, (Value.slice sk zs.length ck).ownBlock = some r → w.heap.size + 1 + 1 + 1 ≤ r := fun r hr => (HBlk.out r hr).1
                have HRo5 := hid (row_only HRo2.out (fun hb => by have := hbo _ hb; omega) hon5)
                have HBe5 := hid (HBe2.out.trans (hon5.below (by have := HBe2.out.size; omega) (fun b hb => by have := hbo _ hb; omega)))
                have HG5 := hid hg5
                refine hK.out _ _ (HSx.out _ HBe5.out) (fun hHeld => ?_)
                clear hK K hg5 hbo HOwn2 HRo2 HK2 hon5
                (try simp only [Act.put, List.setIfInBounds_toArray, List.set_cons_zero, List.set_cons_succ])
                refine wpAnyH_take (i := 10) (v := _) rfl (by kernel_rfl) (by kernel_rfl) (by kernel_rfl) (fun _ _ _ h => h) (Or.inl ⟨by rfl, by (intro w hSw; (try dsimp only at hSw); go_simp; first | done | with_reducible rfl)⟩) hHeld ?_
                (try simp only [Act.put, List.setIfInBounds_toArray, List.set_cons_zero, List.set_cons_succ])
                refine wpAnyH_ready (rs := [11]) (by kernel_rfl) (by simp) ?_
                refine AllReadyH.cons rfl (fun K hK => ?_) ?_
                · have o3 := HRo5.out.cell 3
                  simp at o3
                  have hof := HRo5.out.free
                  have hol := HRo5.out.lt
                  go_simp
                  have HBe6 := hid (HBe5.out.setCell (p := ⟨w.heap.size + 1 + 1, 3, none⟩) (by first | (simp; done) | (simp; omega)) (.slice s5 l5 c5))
                  refine hK.out _ _ (HSx.out _ HBe6.out) (fun hHeld => ?_)
                  clear hK K hHeld o3 hof
                  (try simp only [Act.put, List.setIfInBounds_toArray, List.set_cons_zero, List.set_cons_succ])
                  refine wpAnyH_done (by kernel_rfl) ?_ _
                  go_wp2_with fail
                  go_roundw
                  case rel => exact ⟨k + 1, .slice s5 l5 c5, by go_num, by omega, by rw [HSn.out]; exact HG5.out.box (by omega) _ _, by rw [World.size_setCell]; have := HBe5.out.size; have := HLw.out; omega, HX.out.below HBe6.out (by omega), HZ.out.below HBe6.out (by omega), row_set3 HRo5.out (.slice s5 l5 c5), (HBw.out.trans (HBe6.out.mono (by omega)))⟩
                  case measure => simp [intOf]; omega
                exact AllReadyH.nil
              exact AllReadyH.nil
            exact AllReadyH.nil
          exact AllReadyH.nil
        exact AllReadyH.nil
      · obtain rfl : k = ks.length := by omega
        rw [List.take_length, HMs.out] at HOwn
        have HKp := hid HOwn.out.kp
        obtain ⟨lm, hlm⟩ : ∃ q, ms.length = q := ⟨_, rfl⟩
        obtain ⟨sk, ck, rfl⟩ := HOwn.out.slice
        have HLm := hid hlm
        rw [hlm] at HKp HRo
        clear HOwn hlm hk hlt
        have HKp := hid (show KP (fun b => w.heap.size + 1 + 1 + 1 ≤ b) wr (h + 1) (.slice sk lm ck) (Tm.mk x0 x1 x2 ms).kids from HKp.out)
        have HOc := hid (show Calls Tryd.prog 76 #[.agg #[.int .i64 x0, .int .i64 x1, .string x2, .slice sk lm ck]] wr (FoldR (h + 1) (fun b => w.heap.size + 1 + 1 + 1 ≤ b) (onceT (.mk x0 x1 x2 ms)) wr) from foldOnce_c h h (fun b => w.heap.size + 1 + 1 + 1 ≤ b) (.mk x0 x1 x2 ms) (.slice sk lm ck) wr HFs.out (by omega) HFz.out HKp.out)
        have HTm := hid (show Pt (.mk x0 x1 x2 ms) x0 x1 x2 lm from ⟨rfl, rfl, rfl, HLm.out⟩)
        obtain ⟨t1, ht1⟩ : ∃ q, Tm.mk x0 x1 x2 ms = q := ⟨_, rfl⟩
        rw [ht1] at HOc HTm HFs HFz HFin HKp
        clear ht1
        have o0 := HRo.out.cell 0
        have o1 := HRo.out.cell 1
        have o2 := HRo.out.cell 2
        have o3 := HRo.out.cell 3
        simp at o0 o1 o2 o3
        have hfo := HRo.out.free
        have hlo := HRo.out.lt
        have hlz := HZ.out.lt
        go_wp2_with fail
        clear o0 o1 o2 o3 hfo d3
        refine HOc.out.mono ?_
        rintro e w3 ⟨tx, sx, cx, rfl, hown3, hb3⟩
        obtain ⟨v0, v1, v2, lx, hqx⟩ := Pt.of tx
        rw [hqx.val]
        rw [hqx.l] at hown3 ⊢
        have HX3 := hid (HX.out.on hb3)
        have HZ3 := hid (HZ.out.on hb3)
        have HRo3 := hid (HRo.out.on hb3)
        have HB3 := hid (HBw.out.trans (hb3.mono hz))
        have hz3 := hb3.size
        have HQx := hid hqx
        have HW3 := hid hown3
        have HKp3 := hid ((HKp.out.on hb3).weak (Q := fun b => w.heap.size + 1 + 1 + 1 ≤ b ∧ b < w3.heap.size) (fun b h1 h2 => ⟨h2, h1⟩))
        obtain ⟨bo, hbo⟩ : ∃ q, (onceT t1).isSome = q := ⟨_, rfl⟩
        have HBo := hid hbo
        rw [hbo]
        clear hqx hown3 hb3 hbo HKp HOc
        have HBa := hid (HB3.out.alloc HB3.out.size (.cells #[.int .i64 v0, .int .i64 v1, .string v2, .slice sx lx cx] 28))
        have HZa := hid (HZ3.out.alloc (.cells #[.int .i64 v0, .int .i64 v1, .string v2, .slice sx lx cx] 28))
        have HRa := hid (HRo3.out.alloc (.cells #[.int .i64 v0, .int .i64 v1, .string v2, .slice sx lx cx] 28))
        have HVa := hid (Row.new w3 28 #[.int .i64 v0, .int .i64 v1, .string v2, .slice sx lx cx])
        have hal := (Below.refl w3.heap.size w3).alloc (Nat.le_refl _) (.cells #[.int .i64 v0, .int .i64 v1, .string v2, .slice sx lx cx] 28)
        have HKa := hid ((HKp3.out.weak (Q := fun b => w.heap.size + 1 + 1 + 1 ≤ b ∧ b ≠ w3.heap.size) (fun b _ hb => ⟨hb.1, by omega⟩)).on hal)
        have HWa := hid (fun r (hr : onceT t1 = some r) => (show tx = r ∧ KP (fun b => w.heap.size + 1 + 1 + 1 ≤ b ∧ b ≠ w3.heap.size) (w3.alloc (.cells #[.int .i64 v0, .int .i64 v1, .string v2, .slice sx lx cx] 28)) (h + 1) (.slice sx lx cx) r.kids from ⟨(HW3.out r hr).1, ((HW3.out r hr).2.weak (fun b hb1 hb2 => by rcases hb2 with ⟨hb2, _⟩ | hb2 <;> exact ⟨by omega, by omega⟩)).on hal⟩))
        obtain ⟨xb, hxb⟩ : ∃ q, w3.heap.size = q := ⟨_, rfl⟩
        have HXb := hid (show w.heap.size + 1 + 1 + 1 ≤ xb by omega)
        clear hal HKp3 HW3
        go_wp2_with fail
        generalize hwa : w3.alloc (.cells #[.int .i64 v0, .int .i64 v1, .string v2, .slice sx lx cx] 28) = wa at HBa HZa HRa HVa HKa HWa ⊢
        rw [hxb] at HVa HKa HWa
        (try rw [hxb])
        clear hwa hxb
        go_loopg [6] (meas t1) (fun m v6 wr => ∃ (t' t5 : Tm) (z0 z1 : Int) (z2 : ByteArray) (lz : Nat) (a' : Option Addr) (c' : Nat) (q0 q1 : Int) (q2 : ByteArray) (lq : Nat) (a5 : Option Addr) (c5 : Nat), v6 = .bool (onceT t').isSome ∧ Pt t' z0 z1 z2 lz ∧ Pt t5 q0 q1 q2 lq ∧ meas t' ≤ m ∧ shape (h + 1) t' = true ∧ t'.size ≤ 20000 ∧ finT t' = t.fold ∧
          Row wr (w.heap.size + 1 + 1) 28 #[.int .i64 z0, .int .i64 z1, .string z2, .slice a' lz c'] ∧ Row wr xb 28 #[.int .i64 q0, .int .i64 q1, .string q2, .slice a5 lq c5] ∧ Row wr (w.heap.size + 1) 28 #[.int .i64 0, .int .i64 0, .string ⟨#[]⟩, .slice none 0 0] ∧ KP (fun b => w.heap.size + 1 + 1 + 1 ≤ b ∧ b ≠ xb) wr (h + 1) (.slice a' lz c') t'.kids ∧ (∀ r, onceT t' = some r → t5 = r ∧ KP (fun b => w.heap.size + 1 + 1 + 1 ≤ b ∧ b ≠ xb) wr (h + 1) (.slice a5 lq c5) r.kids) ∧ Below w.heap.size w wr)
        case atStart => exact ⟨t1, tx, x0, x1, x2, lm, sk, ck, v0, v1, v2, lx, sx, cx, by rw [HBo.out], HTm.out, HQx.out, Nat.le_refl _, HFs.out, HFz.out, HFin.out, HRa.out, HVa.out, HZa.out, HKa.out, HWa.out, HBa.out⟩
        case round =>
          obtain ⟨t', t5, z0, z1, z2, lz, a', c', q0, q1, q2, lq, a5, c5, rfl, hp, hq, hm, hs, hzz, hfin, hrx, hrv, hrz, hkp, hkn, hbel⟩ := hrel
          have HP := hid hp
          have HQ := hid hq
          have HM := hid hm
          have HS := hid hs
          have HSz := hid hzz
          have HF := hid hfin
          have HXo := hid hrx
          have HV := hid hrv
          have HZz := hid hrz
          have HK := hid hkp
          have HN := hid hkn
          have HBe := hid hbel
          have hzb := hbel.size
          have hlx := hrx.lt
          have hlv := hrv.lt
          have hlz := hrz.lt
          clear hp hq hm hs hzz hfin hrx hrv hrz hkp hkn hbel
          cases ho : onceT t' with
          | none =>
            have HFn := hid (show t' = t.fold from (fin_none ho).symm.trans HF.out)
            simp only [Option.isSome_none]
            clear ho
            have o0 := HXo.out.cell 0
            have o1 := HXo.out.cell 1
            have o2 := HXo.out.cell 2
            have o3 := HXo.out.cell 3
            have r0 := HZz.out.cell 0
            have r1 := HZz.out.cell 1
            have r2 := HZz.out.cell 2
            have r3 := HZz.out.cell 3
            simp at o0 o1 o2 o3 r0 r1 r2 r3
            have hfr := HZz.out.free
            go_wp2_with fail
            clear o0 o1 o2 o3 r0 r1 r2 r3 hfr
            refine bodyPost_ret (v := .agg #[.int .i64 z0, .int .i64 z1, .string z2, .slice a' lz c'])
              (results_cell_row Tryd.results36 _ _ (w.heap.size + 1) 28 #[.int .i64 z0, .int .i64 z1, .string z2, .slice a' lz c'] (0, 0) _ rfl (four_row HZz.out (.int .i64 z0) (.int .i64 z1) (.string z2) (.slice a' lz c')) Tryd.underlying28 rfl size_term) rfl ?_
            refine ⟨.slice a' lz c', by rw [← HFn.out, HP.out.val], ?_, four_bel HBe.out (show w.heap.size ≤ w.heap.size + 1 by omega) _ _ _ _⟩
            rw [← HFn.out]
            exact (HK.out.keep (by rw [four_size]; exact Nat.le_refl _) (fun b hb _ => four_far _ _ _ (by omega) _ _ _ _ _ _ _ _)).weak (fun b _ hb => by omega)
          | some r =>
            obtain ⟨hrt, hkr⟩ := HN.out r ho
            have HFr := hid ((fin_some HS.out ho).symm.trans HF.out)
            have HLs := hid (once_less HS.out ho)
            have HRt := hid hrt
            simp only [Option.isSome_some]
            have HKr := hid (show KP (fun b => w.heap.size + 1 + 1 + 1 ≤ b ∧ b ≠ xb) wr (h + 1) (.slice a5 lq c5) t5.kids by rw [hrt]; exact hkr)
            have hS5 : shape (h + 1) t5 = true := by rw [hrt]; exact HLs.out.shape
            have hZ5 : t5.size ≤ 20000 := by rw [hrt]; exact Nat.le_trans HLs.out.size HSz.out
            have HS5 := hid hS5
            have HZ5 := hid hZ5
            have HF5 := hid (show finT t5 = t.fold by rw [hrt]; exact HFr.out)
            have HM5 := hid (show meas t5 < _ by rw [hrt]; exact Nat.lt_of_lt_of_le HLs.out.meas HM.out)
            clear ho hrt hkr HN HFr HLs HRt hS5 hZ5
            have o0 := HXo.out.cell 0
            have o1 := HXo.out.cell 1
            have o2 := HXo.out.cell 2
            have o3 := HXo.out.cell 3
            have r0 := HV.out.cell 0
            have r1 := HV.out.cell 1
            have r2 := HV.out.cell 2
            have r3 := HV.out.cell 3
            simp at o0 o1 o2 o3 r0 r1 r2 r3
            have hfo := HXo.out.free
            have HXs := hid (four_row HXo.out (.int .i64 q0) (.int .i64 q1) (.string q2) (.slice a5 lq c5))
            have HVs := hid ((four_far wr (w.heap.size + 1 + 1) xb (by have := HXb.out; omega) (.int .i64 q0) (.int .i64 q1) (.string q2) (.slice a5 lq c5) 0 1 2 3).trans HV.out)
            have HZs := hid ((four_far wr (w.heap.size + 1 + 1) (w.heap.size + 1) (by omega) (.int .i64 q0) (.int .i64 q1) (.string q2) (.slice a5 lq c5) 0 1 2 3).trans HZz.out)
            have HKs := hid (HKr.out.keep (w' := ((((wr.setCell ⟨w.heap.size + 1 + 1, 0, none⟩ (.int .i64 q0)).setCell ⟨w.heap.size + 1 + 1, 1, none⟩ (.int .i64 q1)).setCell ⟨w.heap.size + 1 + 1, 2, none⟩ (.string q2)).setCell ⟨w.heap.size + 1 + 1, 3, none⟩ (.slice a5 lq c5))) (by rw [four_size]; exact Nat.le_refl _) (fun b hb _ => four_far _ _ _ (by omega) _ _ _ _ _ _ _ _))
            have HBs := hid (four_bel HBe.out (show w.heap.size ≤ w.heap.size + 1 + 1 by omega) (.int .i64 q0) (.int .i64 q1) (.string q2) (.slice a5 lq c5))
            have hzs := four_size wr (w.heap.size + 1 + 1) (.int .i64 q0) (.int .i64 q1) (.string q2) (.slice a5 lq c5) 0 1 2 3
            have HSq := hid hzs
            clear hzs
            go_wp2_with fail
            clear o0 o1 o2 o3 r0 r1 r2 r3 hfo
            generalize ((((wr.setCell ⟨w.heap.size + 1 + 1, 0, none⟩ (.int .i64 q0)).setCell ⟨w.heap.size + 1 + 1, 1, none⟩ (.int .i64 q1)).setCell ⟨w.heap.size + 1 + 1, 2, none⟩ (.string q2)).setCell ⟨w.heap.size + 1 + 1, 3, none⟩ (.slice a5 lq c5)) = ws at HXs HVs HZs HKs HBs HSq ⊢
            have HOc := hid (show Calls Tryd.prog 76 #[.agg #[.int .i64 q0, .int .i64 q1, .string q2, .slice a5 lq c5]] ws (FoldR (h + 1) (fun b => w.heap.size + 1 + 1 + 1 ≤ b ∧ b ≠ xb) (onceT t5) ws) from HQ.out.val (.slice a5 lq c5) ▸ foldOnce_c h h (fun b => w.heap.size + 1 + 1 + 1 ≤ b ∧ b ≠ xb) t5 (.slice a5 lq c5) ws HS5.out (by omega) HZ5.out HKs.out)
            refine HOc.out.mono ?_
            rintro e w4 ⟨t6, s6, c6, rfl, hown4, hb4⟩
            obtain ⟨p0, p1, p2, lp, hp6⟩ := Pt.of t6
            rw [hp6.val]
            rw [hp6.l] at hown4 ⊢
            have HX4 := hid (show Row w4 (w.heap.size + 1 + 1) 28 #[.int .i64 q0, .int .i64 q1, .string q2, .slice a5 lq c5] from Row.on HXs.out hb4)
            have HV4 := hid (show Row w4 xb 28 #[.int .i64 q0, .int .i64 q1, .string q2, .slice a5 lq c5] from Row.on HVs.out hb4)
            have HZ4 := hid (show Row w4 (w.heap.size + 1) 28 #[.int .i64 0, .int .i64 0, .string ⟨#[]⟩, .slice none 0 0] from Row.on HZs.out hb4)
            have HB4 := hid (HBs.out.trans (hb4.mono HBs.out.size))
            have HK4 := hid (HKs.out.on hb4)
            have HP6 := hid hp6
            have HW4 := hid (fun r (hr : onceT t5 = some r) => (show t6 = r ∧ KP (fun b => w.heap.size + 1 + 1 + 1 ≤ b ∧ b ≠ xb) w4 (h + 1) (.slice s6 lp c6) r.kids from ⟨(hown4 r hr).1, (hown4 r hr).2.weak (fun b hb1 hb2 => by rcases hb2 with ⟨hb2, _⟩ | hb2; exact hb2; have := HSq.out; have := HXb.out; exact ⟨by omega, by omega⟩)⟩))
            clear hp6 hown4 hb4 HOc
            have r0 := HV4.out.cell 0
            have r1 := HV4.out.cell 1
            have r2 := HV4.out.cell 2
            have r3 := HV4.out.cell 3
            simp at r0 r1 r2 r3
            have hfv := HV4.out.free
            have hlv4 := HV4.out.lt
            go_wp2_with fail
            clear r0 r1 r2 r3 hfv
            go_roundg (meas t5)
            case measure => exact HM5.out
            case rel =>
              have hxb := HXb.out
              have g1 := (four_far w4 xb (w.heap.size + 1 + 1) (by omega) (.int .i64 p0) (.int .i64 p1) (.string p2) (.slice s6 lp c6) 0 1 2 3).trans HX4.out
              have g2 := four_row HV4.out (.int .i64 p0) (.int .i64 p1) (.string p2) (.slice s6 lp c6)
              have g3 := (four_far w4 xb (w.heap.size + 1) (by omega) (.int .i64 p0) (.int .i64 p1) (.string p2) (.slice s6 lp c6) 0 1 2 3).trans HZ4.out
              have g4 := HK4.out.keep (w' := ((((w4.setCell ⟨xb, 0, none⟩ (.int .i64 p0)).setCell ⟨xb, 1, none⟩ (.int .i64 p1)).setCell ⟨xb, 2, none⟩ (.string p2)).setCell ⟨xb, 3, none⟩ (.slice s6 lp c6))) (by rw [four_size]; exact Nat.le_refl _) (fun b hb _ => four_far _ _ _ hb.2 _ _ _ _ _ _ _ _)
              have g5 := fun r (hr : onceT t5 = some r) => And.intro (HW4.out r hr).1 ((HW4.out r hr).2.keep (w' := ((((w4.setCell ⟨xb, 0, none⟩ (.int .i64 p0)).setCell ⟨xb, 1, none⟩ (.int .i64 p1)).setCell ⟨xb, 2, none⟩ (.string p2)).setCell ⟨xb, 3, none⟩ (.slice s6 lp c6))) (by rw [four_size]; exact Nat.le_refl _) (fun b hb _ => four_far _ _ _ hb.2 _ _ _ _ _ _ _ _))
              have g6 := four_bel HB4.out (show w.heap.size ≤ xb by omega) (.int .i64 p0) (.int .i64 p1) (.string p2) (.slice s6 lp c6)
              exact ⟨t5, t6, q0, q1, q2, lq, a5, c5, p0, p1, p2, lp, s6, c6, rfl, HQ.out, HP6.out, Nat.le_refl _, HS5.out, HZ5.out, HF5.out, g1, g2, g3, g4, g5, g6⟩
end Go.Proofs.YtffibmlgdacafaaDoor.Um
