/- What a function makes of each item of a list of terms (mapped), for any function value; a term copied, by the program. -/
import Derived.Test.YtffibmlgdacafaaDoorVe
import Derived.Laws.EntriesVeiled
set_option linter.unusedSimpArgs false
set_option linter.unusedVariables false
namespace Go.Proofs.YtffibmlgdacafaaDoor.Um
open Go.RowKit Go.MapKept Pl Ft Mm In C2 Im

theorem KOwn.blk {w : World} {n lo hi : Nat} {v : Value} {ks : List Tm} (h : KOwn w n lo hi v ks) {r : Nat} (hr : v.ownBlock = some r) : lo ≤ r ∧ r < w.heap.size := by
  obtain ⟨us, _, hrow⟩ := h.row
  exact hrow.lt r hr
theorem maps_snoc {f : Tm → Tm} {ks : List Tm} {k : Nat} (hk : k < ks.length) : (ks.take (k + 1)).map f = (ks.take k).map f ++ [f (ks.getD k tz)] := by
  rw [take_snoc ks k hk, List.map_append]; rfl
set_option maxRecDepth 100000 in
set_option maxHeartbeats 4000000 in
theorem mappedT_c (n m : Nat) (f : Tm → Tm) (ks : List Tm) (v : Value) (w0 : World) (F : Nat) (cs : Array Value) (hr : KRd w0 n v ks) (hl : ks.length ≤ 1000000) (hen : ∀ (xs : Array Value) (w : World), (callFunc F xs).run Tryd.prog w = .ok (.enter F xs) w)
    (hc : ∀ (n' j : Nat) (u : Value) (w : World), j < ks.length → n = n' + 1 → KRd w n' u (ks.getD j tz).kids → Below w0.heap.size w0 w → Calls Tryd.prog F (#[tmVal (ks.getD j tz) u] ++ cs) w (CpPost1 m (f (ks.getD j tz)) w)) :
    Calls Tryd.prog 78 #[v, .func (.func F) #[] cs] w0 (CpPost (m + 1) (ks.map f) w0) := by
  obtain ⟨a, cap, rfl⟩ := hr.slice
  have HR := hid hr
  have HC := hid hc
  have HEn := hid hen
  clear hr hc hen
  unfold CpPost
  go_enter Tryd.func78, Tryd.ntmps78
  go_wp2_with fail
  go_loopw [5, 10] (fun vk c wr => ∃ k : Nat, c = .int .i64 k ∧ k ≤ ks.length ∧ KOwn wr (m + 1) w0.heap.size wr.heap.size vk ((ks.take k).map f) ∧ Below w0.heap.size w0 wr) (fun _ c _ => ks.length - (intOf c).toNat)
  case atStart => exact ⟨0, rfl, by omega, KOwn.empty (Nat.le_refl _) ⟨by simp, .inl ⟨rfl, rfl⟩⟩ (fun r h => by cases h), Below.refl _ _⟩
  case round =>
    obtain ⟨k, rfl, hk, hown, hbel⟩ := hrel
    have HOwn := hid hown
    have HBe := hid hbel
    have hz := hbel.size
    clear hown hbel
    by_cases hlt : k < ks.length
    · obtain ⟨m', b, o, cap', rfl, hv, hg, hc⟩ := HR.out.cells (by omega)
      simp only [Value.slice.injEq, true_and] at hv
      obtain ⟨rfl, rfl⟩ := hv
      obtain ⟨u, c0, c1, c2, c3, hru⟩ := hc k hlt
      have q0 := (HBe.out.cell (p := ⟨b, o + k * 4, none⟩) hg).trans c0
      have q1 := (HBe.out.cell (p := ⟨b, o + k * 4 + 1, none⟩) hg).trans c1
      have q2 := (HBe.out.cell (p := ⟨b, o + k * 4 + 2, none⟩) hg).trans c2
      have q3 := (HBe.out.cell (p := ⟨b, o + k * 4 + 3, none⟩) hg).trans c3
      have HSn := hid (maps_snoc (f := f) hlt)
      have HCk := hid (fun (u : Value) (w : World) => HC.out m' k u w hlt rfl)
      obtain ⟨t2, ht⟩ : ∃ t, ks.getD k tz = t := ⟨_, rfl⟩
      rw [ht] at q0 q1 q2 hru HSn
      simp only [ht] at HCk
      obtain ⟨su, cu, rfl⟩ := hru.slice
      obtain ⟨y0, y1, y2, ly, hq⟩ := Pt.of t2
      rw [hq.k] at q0
      rw [hq.n] at q1
      rw [hq.s] at q2
      rw [hq.l] at q3 hru
      have hAl := (Below.refl wr.heap.size wr).alloc (Nat.le_refl _) (.cells #[.int .i64 y0, .int .i64 y1, .string y2, .slice su ly cu] 28)
      have HRu := hid ((hru.on HBe.out).on hAl)
      have HQ := hid hq
      have HBeA := hid (HBe.out.trans (hAl.mono hz))
      have HAl := hid hAl
      have HLn := hid (show ((ks.take k).map f).length ≤ 1000000 by rw [List.length_map, List.length_take]; omega)
      obtain ⟨zs, hzs⟩ : ∃ l, (ks.take k).map f = l := ⟨_, rfl⟩
      rw [hzs] at HOwn HSn HLn
      obtain ⟨sk, ck, rfl⟩ := HOwn.out.slice
      have hen := HEn.out
      clear hc c0 c1 c2 c3 hru ht hq hAl hzs
      go_wp2_with fail
      rw [← HQ.out.val]
      refine (HCk.out _ _ HRu.out HBeA.out).mono ?_
      rintro e w3 ⟨v3, rfl, hown3, hb3⟩
      have HB3 := hid (HBeA.out.trans (hb3.mono HBeA.out.size))
      have HOwn3 := hid ((HOwn.out.on HAl.out).on hb3)
      have hz3 := hb3.size
      simp only [World.size_alloc] at hz3
      obtain ⟨t3, ht3⟩ : ∃ t, f t2 = t := ⟨_, rfl⟩
      rw [ht3] at hown3 HSn ⊢
      obtain ⟨s3, c3, rfl⟩ := hown3.slice
      obtain ⟨z0, z1, z2, lz, hq3⟩ := Pt.of t3
      rw [hq3.val]
      have HQ3 := hid hq3
      have HK3 := hid hown3
      rw [hq3.l] at HK3 ⊢
      clear hb3 hown3 q0 q1 q2 q3 hen ht3 hq3
      go_wp2_with (at_builtin; refine app_term _ rfl _ _ rfl w0.heap.size m wr.heap.size (wr.heap.size + 1) w3.heap.size zs t3 _ (.slice s3 lz c3) rfl (HOwn3.out.on ((Below.refl _ _).alloc (Nat.le_refl _) _)) (by omega) ((HK3.out.widen (by simp) (Nat.le_refl _)).on ((Below.refl _ _).alloc (Nat.le_refl _) _)) (by simp) rfl _ _ _ rfl rfl (by rw [tCell, HQ3.out.k, HQ3.out.n, HQ3.out.s]; exact src_term _ _ _ _ _ _ rfl) (by have := HLn.out; omega) ?_)
      intro v5 w5 hg5 hon5
      have hbo : ∀ r, (Value.slice sk zs.length ck).ownBlock = some r → w0.heap.size ≤ r := fun r hr => (HOwn3.out.blk hr).1
      have hBA := HB3.out.alloc HB3.out.size (.cells #[.int .i64 z0, .int .i64 z1, .string z2, .slice s3 lz c3] 28)
      have HB5 := hid (hBA.trans (hon5.below hBA.size (fun b hb => hbo _ hb)))
      have HG5 := hid hg5
      clear hg5 hon5 hbo hBA
      go_wp2_with fail
      go_roundw
      case rel => exact ⟨k + 1, by go_num, by omega, by rw [HSn.out]; exact HG5.out, HB5.out⟩
      case measure => simp [intOf]; omega
    · obtain rfl : k = ks.length := by omega
      rw [List.take_length] at HOwn
      clear hk hlt
      obtain ⟨zs, hzs⟩ : ∃ l, ks.map f = l := ⟨_, rfl⟩
      rw [hzs] at HOwn
      have HZs := hid hzs
      obtain ⟨sk, ck, rfl⟩ := HOwn.out.slice
      clear hzs
      go_wp2_with fail
      go_ret
      exact ⟨_, rfl, by rw [HZs.out]; exact HOwn.out, HBe.out⟩
theorem copied_enter (xs : Array Value) (w : World) : (callFunc 52 xs).run Tryd.prog w = .ok (.enter 52 xs) w := by kernel_rfl
set_option maxRecDepth 100000 in
set_option maxHeartbeats 4000000 in
theorem copied_c (h : Nat) : ∀ (n : Nat) (t : Tm) (kv : Value) (w : World), KRd w n kv t.kids → shape h t = true →
    Calls Tryd.prog 52 #[tmVal t kv] w (CpPost1 h t w) := by
  induction h with
  | zero => intro n t kv w _ hs; simp [shape] at hs
  | succ h ih =>
    intro n t kv w hr hs
    obtain ⟨hf, hks⟩ := shape_at hs
    have HI := hid ih
    have HR := hid hr
    have HSh := hid hks
    have hk2 := form_kids hf
    obtain ⟨a, cap, rfl⟩ := hr.slice
    clear ih hr hs hks hf
    obtain ⟨x0, x1, x2, lk, hp⟩ := Pt.of t
    have HP := hid hp
    unfold CpPost1
    simp only [hp.val]
    rw [hp.l] at hk2 HR ⊢
    have hlk := hp.l
    clear hp
    obtain ⟨ks, hks⟩ : ∃ l, t.kids = l := ⟨_, rfl⟩
    rw [hks] at HR hlk HSh ⊢
    clear hks
    subst hlk
    have HB0 := hid ((Below.refl w.heap.size w).alloc (Nat.le_refl _) (.cells #[.int .i64 x0, .int .i64 x1, .string x2, .slice a ks.length cap] 28))
    have HX0 := hid (Row.new w 28 #[.int .i64 x0, .int .i64 x1, .string x2, .slice a ks.length cap])
    have HY0 := hid (Row.new (w.alloc (.cells #[.int .i64 x0, .int .i64 x1, .string x2, .slice a ks.length cap] 28)) 28 #[.int .i64 0, .int .i64 0, .string ⟨#[]⟩, .slice none 0 0])
    simp only [World.size_alloc] at HY0
    have HZ0 := hid (HB0.out.alloc HB0.out.size (.cells #[.int .i64 0, .int .i64 0, .string ⟨#[]⟩, .slice none 0 0] 28))
    go_enter Tryd.func52, Tryd.ntmps52
    go_wp2_with fail
    refine (mappedT_c n h (fun t => t) ks _ _ 52 #[] (HR.out.on HZ0.out) (by omega) copied_enter (fun n' j u wx hj _ hu _ => HI.out n' _ u wx hu (HSh.out j hj))).mono ?_
    rintro e w1 ⟨v1, rfl, hown1, hb1⟩
    rw [List.map_id'] at hown1
    obtain ⟨s1, c1, rfl⟩ := hown1.slice
    have HOwn1 := hid hown1
    simp only [World.size_alloc] at HOwn1
    have HB1 := hid (HZ0.out.trans (hb1.mono HZ0.out.size))
    have HX1 := hid ((HX0.out.alloc (.cells #[.int .i64 0, .int .i64 0, .string ⟨#[]⟩, .slice none 0 0] 28)).on hb1)
    have HY1 := hid (HY0.out.on hb1)
    have hz1 := hb1.size
    simp only [World.size_alloc] at hz1
    clear hown1 hb1
    have o0 := HX1.out.cell 0
    have o1 := HX1.out.cell 1
    have o2 := HX1.out.cell 2
    have o3 := HX1.out.cell 3
    have r0 := HY1.out.cell 0
    have r1 := HY1.out.cell 1
    have r2 := HY1.out.cell 2
    have r3 := HY1.out.cell 3
    simp at o0 o1 o2 o3 r0 r1 r2 r3
    have hfo := HX1.out.free
    have hfr := HY1.out.free
    go_wp2_with fail
    clear o0 o1 o2 o3 r0 r1 r2 r3 hfo hfr
    have hr5 := HY1.out.far (p := ⟨w.heap.size, 3, none⟩) (by first | (simp; done) | (simp; omega)) (.slice s1 ks.length c1)
    have HB6 := hid (HB1.out.setCell (p := ⟨w.heap.size, 3, none⟩) (by first | (simp; done) | (simp; omega)) (.slice s1 ks.length c1))
    have HR6 := hid (four_row hr5 (.int .i64 x0) (.int .i64 x1) (.string x2) (.slice s1 ks.length c1))
    refine bodyPost_ret (v := .agg #[.int .i64 x0, .int .i64 x1, .string x2, .slice s1 ks.length c1])
      (results_cell_row Tryd.results52 _ _ (w.heap.size + 1) 28 #[.int .i64 x0, .int .i64 x1, .string x2, .slice s1 ks.length c1] (0, 0) _ rfl HR6.out Tryd.underlying28 rfl size_term) rfl ?_
    refine ⟨_, rfl, ?_, four_bel HB6.out (by omega) _ _ _ _⟩
    rw [four_size, World.size_setCell]
    refine (HOwn1.out.keep (fun b h1 h2 h3 => ?_)).widen (by omega) (Nat.le_refl _)
    rw [four_far _ _ _ (by omega), Below.heap_setCell _ _ _ _ (by simp; omega)]
end Go.Proofs.YtffibmlgdacafaaDoor.Um
