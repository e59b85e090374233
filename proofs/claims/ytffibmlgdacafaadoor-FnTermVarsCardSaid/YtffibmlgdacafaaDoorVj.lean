/- A term copied, by the model. -/
import Derived.Test.YtffibmlgdacafaaDoorVk
set_option linter.unusedSimpArgs false
set_option linter.unusedVariables false
namespace Go.Proofs.YtffibmlgdacafaaDoor.Um
open Go.RowKit Pl Ft Mm In C2 Im

set_option maxHeartbeats 1000000 in
theorem copyTerm_of (n : Nat) (ih : ∀ (ks : List Tm) (v : Value) (w : World), KRd w n v ks → ks.length + wides ks ≤ 1000000 → Calls Tryd.prog 101 #[v] w (CpPost n ks w))
    (t : Tm) (kv : Value) (w : World) (hr : KRd w n kv t.kids) (hw : t.wide ≤ 1000000) : Calls Tryd.prog 55 #[tmVal t kv] w (CpPost1 n t w) := by
  have hW := wide_eq t
  obtain ⟨a, cap, rfl⟩ := hr.slice
  have HR := hid hr
  clear hr
  unfold CpPost1
  obtain ⟨k, m, s, ks⟩ := t
  unfold tmVal
  simp only [Tm.kind, Tm.num, Tm.text, Tm.kids] at *
  have ha1 := (Below.refl w.heap.size w).alloc (Nat.le_refl _) (.cells #[.int .i64 k, .int .i64 m, .string s, .slice a ks.length cap] 28)
  have ha2 := ha1.alloc ha1.size (.cells #[.int .i64 0, .int .i64 0, .string ⟨#[]⟩, .slice none 0 0] 28)
  have HB0 := hid (ha2.alloc ha2.size (.cells #[.int .i64 k, .int .i64 m, .string s, .slice a ks.length cap] 28))
  have HX0 := hid (((Row.new w 28 #[.int .i64 k, .int .i64 m, .string s, .slice a ks.length cap]).alloc (.cells #[.int .i64 0, .int .i64 0, .string ⟨#[]⟩, .slice none 0 0] 28)).alloc (.cells #[.int .i64 k, .int .i64 m, .string s, .slice a ks.length cap] 28))
  have HR0 := hid ((Row.new (w.alloc (.cells #[.int .i64 k, .int .i64 m, .string s, .slice a ks.length cap] 28)) 28 #[.int .i64 0, .int .i64 0, .string ⟨#[]⟩, .slice none 0 0]).alloc (.cells #[.int .i64 k, .int .i64 m, .string s, .slice a ks.length cap] 28))
  have HO0 := hid (Row.new ((w.alloc (.cells #[.int .i64 k, .int .i64 m, .string s, .slice a ks.length cap] 28)).alloc (.cells #[.int .i64 0, .int .i64 0, .string ⟨#[]⟩, .slice none 0 0] 28)) 28 #[.int .i64 k, .int .i64 m, .string s, .slice a ks.length cap])
  simp only [World.size_alloc] at HR0 HO0
  clear ha1 ha2
  go_enter Tryd.func55, Tryd.ntmps55
  go_wp2_with fail
  refine (ih ks _ _ (HR.out.on HB0.out) (by omega)).mono ?_
  rintro e w1 ⟨v1, rfl, hown1, hb1⟩
  obtain ⟨s1, c1, rfl⟩ := hown1.slice
  have HOwn1 := hid hown1
  simp only [World.size_alloc] at HOwn1
  have HR1 := hid (HR0.out.on hb1)
  have HO1 := hid (HO0.out.on hb1)
  have HB1 := hid (HB0.out.trans (hb1.mono HB0.out.size))
  have hz1 := hb1.size
  simp only [World.size_alloc] at hz1
  clear hown1 hb1
  have o0 := HO1.out.cell 0
  have o1 := HO1.out.cell 1
  have o2 := HO1.out.cell 2
  have o3 := HO1.out.cell 3
  have r0 := HR1.out.cell 0
  have r1 := HR1.out.cell 1
  have r2 := HR1.out.cell 2
  have r3 := HR1.out.cell 3
  simp at o0 o1 o2 o3 r0 r1 r2 r3
  have hfo := HO1.out.free
  have hfr := HR1.out.free
  go_wp2_with fail
  clear o0 o1 o2 o3 r0 r1 r2 r3 hfo hfr
  have hr5 := HR1.out.far (p := ⟨w.heap.size + 1 + 1, 3, none⟩) (by first | (simp; done) | (simp; omega)) (.slice s1 ks.length c1)
  have HB6 := hid (HB1.out.setCell (p := ⟨w.heap.size + 1 + 1, 3, none⟩) (by first | (simp; done) | (simp; omega)) (.slice s1 ks.length c1))
  have HR6 := hid (four_row hr5 (.int .i64 k) (.int .i64 m) (.string s) (.slice s1 ks.length c1))
  refine bodyPost_ret (v := .agg #[.int .i64 k, .int .i64 m, .string s, .slice s1 ks.length c1])
    (results_cell_row Tryd.results55 _ _ (w.heap.size + 1) 28 #[.int .i64 k, .int .i64 m, .string s, .slice s1 ks.length c1] (0, 0) _ rfl HR6.out Tryd.underlying28 rfl size_term) rfl ?_
  refine ⟨_, rfl, ?_, four_bel HB6.out (by omega) _ _ _ _⟩
  rw [four_size, World.size_setCell]
  refine (HOwn1.out.keep (fun b h1 h2 h3 => ?_)).widen (by omega) (Nat.le_refl _)
  rw [four_far _ _ _ (by omega), Below.heap_setCell _ _ _ _ (by simp; omega)]
set_option maxHeartbeats 4000000 in
theorem copyTerms_c (n : Nat) : ∀ (ks : List Tm) (v : Value) (w : World), KRd w n v ks → ks.length + wides ks ≤ 1000000 → Calls Tryd.prog 101 #[v] w (CpPost n ks w) := by
  induction n using Nat.strongRecOn with
  | _ n ih =>
  intro ks v w hr hw
  obtain ⟨a, cap, rfl⟩ := hr.slice
  have HR := hid hr
  have HI := hid ih
  clear hr ih
  unfold CpPost
  go_enter Tryd.func101, Tryd.ntmps101
  go_wp2_with fail
  go_loopw [3, 4] (fun vk c wr => ∃ k : Nat, c = .int .i64 k ∧ k ≤ ks.length ∧ KOwn wr n w.heap.size wr.heap.size vk (ks.take k) ∧ Below w.heap.size w wr) (fun _ c _ => ks.length - (intOf c).toNat)
  case atStart => exact ⟨0, rfl, by omega, KOwn.empty (Nat.le_refl _) ⟨by simp, .inl ⟨rfl, rfl⟩⟩ (fun r h => by cases h), Below.refl _ _⟩
  case round =>
    obtain ⟨k, rfl, hk, hown, hbel⟩ := hrel
    have HOwn := hid hown
    have HBe := hid hbel
    have hz := hbel.size
    clear hown hbel
    by_cases hlt : k < ks.length
    · obtain ⟨m, b, o, cap', rfl, hv, hg, hc⟩ := HR.out.cells (by omega)
      simp only [Value.slice.injEq, true_and] at hv
      obtain ⟨rfl, rfl⟩ := hv
      obtain ⟨u, c0, c1, c2, c3, hru⟩ := hc k hlt
      have q0 := (HBe.out.cell (p := ⟨b, o + k * 4, none⟩) hg).trans c0
      have q1 := (HBe.out.cell (p := ⟨b, o + k * 4 + 1, none⟩) hg).trans c1
      have q2 := (HBe.out.cell (p := ⟨b, o + k * 4 + 2, none⟩) hg).trans c2
      have q3 := (HBe.out.cell (p := ⟨b, o + k * 4 + 3, none⟩) hg).trans c3
      have hwk := wides_at ks k hlt
      have hwk2 : (ks.getD k tz).wide ≤ 1000000 := by omega
      have HTk := hid (take_snoc ks k hlt)
      clear hwk
      obtain ⟨t2, ht⟩ : ∃ t, ks.getD k tz = t := ⟨_, rfl⟩
      rw [ht] at q0 q1 q2 hru hwk2 HTk
      have HWk := hid hwk2
      obtain ⟨su, cu, rfl⟩ := hru.slice
      obtain ⟨y0, y1, y2, ly, hq⟩ := Pt.of t2
      rw [hq.k] at q0
      rw [hq.n] at q1
      rw [hq.s] at q2
      rw [hq.l] at q3 hru
      have HRu := hid (hru.on HBe.out)
      have HQ := hid hq
      have HLk := hid (show (ks.take k).length ≤ 1000000 ∨ 1000000 < (ks.take k).length by omega)
      have HLn := hid (show (ks.take k).length ≤ ks.length by rw [List.length_take]; omega)
      obtain ⟨zs, hzs⟩ : ∃ l, ks.take k = l := ⟨_, rfl⟩
      rw [hzs] at HOwn HTk HLk HLn
      obtain ⟨sk, ck, rfl⟩ := HOwn.out.slice
      clear hc c0 c1 c2 c3 hru ht hq hzs hwk2
      go_wp2_with fail
      rw [← HQ.out.val]
      refine (copyTerm_of m (HI.out m (by omega)) t2 _ _ HRu.out HWk.out).mono ?_
      rintro e w3 ⟨v3, rfl, hown3, hb3⟩
      rw [HQ.out.val]
      have HB3 := hid (HBe.out.trans (hb3.mono hz))
      have HOwn3 := hid (HOwn.out.on hb3)
      have hz3 := hb3.size
      obtain ⟨s3, c3, rfl⟩ := hown3.slice
      have HK3 := hid hown3
      clear hb3 hown3 q0 q1 q2 q3
      rw [HQ.out.l] at HK3 ⊢
      go_wp2_with (at_builtin; refine app_term _ rfl _ _ rfl w.heap.size m wr.heap.size wr.heap.size w3.heap.size zs t2 _ (.slice s3 ly c3) rfl (HOwn3.out.on ((Below.refl _ _).alloc (Nat.le_refl _) _)) (Nat.le_refl _) (HK3.out.on ((Below.refl _ _).alloc (Nat.le_refl _) _)) (by simp) rfl _ _ _ rfl rfl (by rw [tCell, HQ.out.k, HQ.out.n, HQ.out.s]; exact src_term _ _ _ _ _ _ rfl) (by have := HLn.out; omega) ?_)
      intro v5 w5 hg5 hon5
      have hbo : ∀ r, (Value.slice sk zs.length ck).ownBlock = some r → w.heap.size ≤ r := fun r hr => (HOwn3.out.blk hr).1
      have hBA := HB3.out.alloc HB3.out.size (.cells #[.int .i64 y0, .int .i64 y1, .string y2, .slice s3 ly c3] 28)
      have HB5 := hid (hBA.trans (hon5.below hBA.size (fun b hb => hbo _ hb)))
      have HG5 := hid hg5
      clear hg5 hon5 hbo hBA
      go_wp2_with fail
      go_roundw
      case rel => exact ⟨k + 1, by go_num, by omega, by rw [HTk.out]; exact HG5.out, HB5.out⟩
      case measure => simp [intOf]; omega
    · obtain rfl : k = ks.length := by omega
      rw [List.take_length] at HOwn
      go_wp2_with fail
      go_ret
      exact ⟨_, rfl, HOwn.out, HBe.out⟩
theorem copyTerm_c (n : Nat) (t : Tm) (kv : Value) (w : World) (hr : KRd w n kv t.kids) (hw : t.wide ≤ 100000) : Calls Tryd.prog 55 #[tmVal t kv] w (CpPost1 n t w) := copyTerm_of n (copyTerms_c n) t kv w hr (by omega)
end Go.Proofs.YtffibmlgdacafaaDoor.Um
