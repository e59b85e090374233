/- walk, variables, TermVars of the program. -/
import Derived.Test.YtffibmlgdacafaaDoorUw
set_option linter.unusedSimpArgs false
set_option linter.unusedVariables false
namespace Go.Proofs.YtffibmlgdacafaaDoor.Um
open Go.RowKit Go.MapKept Pl Ft Mm In C2 Im

/-- The slice v reads as these terms, all in blocks below B. -/
def KIn (B : Nat) (w : World) : Nat → Value → List Tm → Prop
  | 0, v, ks => ks = [] ∧ ∃ a cap, v = .slice a 0 cap
  | n + 1, v, ks => ∃ a cap, v = .slice a ks.length cap ∧ (ks = [] ∨ ∃ b o, a = some ⟨b, o, none⟩ ∧ b < B ∧ ∀ j, j < ks.length → ∃ u,
      w.cell? ⟨b, o + j * 4, none⟩ = some (.int .i64 (ks.getD j tz).kind) ∧ w.cell? ⟨b, o + j * 4 + 1, none⟩ = some (.int .i64 (ks.getD j tz).num) ∧
      w.cell? ⟨b, o + j * 4 + 2, none⟩ = some (.string (ks.getD j tz).text) ∧ w.cell? ⟨b, o + j * 4 + 3, none⟩ = some u ∧ KIn B w n u (ks.getD j tz).kids)
theorem KRd.in_ {w : World} : ∀ {n : Nat} {v : Value} {ks : List Tm}, KRd w n v ks → KIn w.heap.size w n v ks
  | 0, _, _, h => h
  | n + 1, v, ks, h => by
    obtain ⟨a, cap, e, h⟩ := h
    refine ⟨a, cap, e, ?_⟩
    rcases h with h | ⟨b, o, ea, hg, hc⟩
    · exact .inl h
    · refine .inr ⟨b, o, ea, hg, fun j hj => ?_⟩
      obtain ⟨u, h0, h1, h2, h3, hk⟩ := hc j hj
      exact ⟨u, h0, h1, h2, h3, KRd.in_ hk⟩
theorem KIn.below {B : Nat} {w w' : World} (hb : Below B w w') : ∀ {n : Nat} {v : Value} {ks : List Tm}, KIn B w n v ks → KIn B w' n v ks
  | 0, _, _, h => h
  | n + 1, v, ks, h => by
    obtain ⟨a, cap, e, h⟩ := h
    refine ⟨a, cap, e, ?_⟩
    rcases h with h | ⟨b, o, ea, hg, hc⟩
    · exact .inl h
    · refine .inr ⟨b, o, ea, hg, fun j hj => ?_⟩
      obtain ⟨u, h0, h1, h2, h3, hk⟩ := hc j hj
      exact ⟨u, (hb.cell (p := ⟨b, o + j * 4, none⟩) hg).trans h0, (hb.cell (p := ⟨b, o + j * 4 + 1, none⟩) hg).trans h1, (hb.cell (p := ⟨b, o + j * 4 + 2, none⟩) hg).trans h2, (hb.cell (p := ⟨b, o + j * 4 + 3, none⟩) hg).trans h3, KIn.below hb hk⟩
theorem KIn.slice {B : Nat} {w : World} {n : Nat} {v : Value} {ks : List Tm} (h : KIn B w n v ks) : ∃ a cap, v = .slice a ks.length cap := by
  cases n with
  | zero => obtain ⟨rfl, a, cap, e⟩ := h; exact ⟨a, cap, e⟩
  | succ n => obtain ⟨a, cap, e, _⟩ := h; exact ⟨a, cap, e⟩
theorem KIn.cells {B : Nat} {w : World} {n : Nat} {v : Value} {ks : List Tm} (h : KIn B w n v ks) (h0 : 0 < ks.length) : ∃ m b o cap, n = m + 1 ∧ v = .slice (some ⟨b, o, none⟩) ks.length cap ∧ b < B ∧ ∀ j, j < ks.length → ∃ u,
      w.cell? ⟨b, o + j * 4, none⟩ = some (.int .i64 (ks.getD j tz).kind) ∧ w.cell? ⟨b, o + j * 4 + 1, none⟩ = some (.int .i64 (ks.getD j tz).num) ∧
      w.cell? ⟨b, o + j * 4 + 2, none⟩ = some (.string (ks.getD j tz).text) ∧ w.cell? ⟨b, o + j * 4 + 3, none⟩ = some u ∧ KIn B w m u (ks.getD j tz).kids := by
  cases n with
  | zero => obtain ⟨rfl, _⟩ := h; simp at h0
  | succ m =>
    obtain ⟨a, cap, rfl, h⟩ := h
    rcases h with rfl | ⟨b, o, rfl, hb, hc⟩
    · simp at h0
    · exact ⟨m, b, o, cap, rfl, rfl, hb, hc⟩
theorem only_mix {p q : Nat → Prop} {w0 w w' : World} (h : Only p w0 w) (ho : Only q w w') (hq : ∀ k, q k → p k ∨ w0.heap.size ≤ k) : Only p w0 w' :=
  ⟨ho.os.trans h.os, ho.tape.trans h.tape, ho.output.trans h.output, Nat.le_trans h.size ho.size, fun k hk hn => (ho.block k (Nat.lt_of_lt_of_le hk h.size) (fun hqk => by rcases hq k hqk with h1 | h1; exact hn h1; omega)).trans (h.block k hk hn)⟩
theorem visit_len (L : List ByteArray) (t : Tm) : (visitL L t).length ≤ L.length + 1 := by
  unfold visitL addT
  repeat' split
  all_goals simp
theorem walk_len : ∀ (h : Nat) (L : List ByteArray) (t : Tm), (walkL h L t).length ≤ L.length + t.size
  | 0, L, t => by unfold walkL; omega
  | h + 1, L, t => by
    have key : ∀ (ks : List Tm) (L : List ByteArray), (ks.foldl (walkL h) L).length ≤ L.length + sizes ks := by
      intro ks
      induction ks with
      | nil => intro L; simp
      | cons k ks ih =>
        intro L
        have h1 := walk_len h L k
        have h2 := ih (walkL h L k)
        rw [List.foldl_cons, sizes_cons]
        omega
    unfold walkL
    have h1 := key t.kids (visitL L t)
    have h2 := visit_len L t
    rw [size_eq]
    omega
theorem visitFn_enter (xs : Array Value) (w : World) : (callFunc 110 xs).run Tryd.prog w = .ok (.enter 110 xs) w := by kernel_rfl
/-- How the walk stands after k parts. -/
structure WkRel (lo bm bl m0 : Nat) (v : Value) (w0 : World) (L : List ByteArray) (vk : Value) (wr : World) : Prop where
  st : St lo bm bl m0 L vk wr
  at_ : ∀ k, vk.ownBlock = some k → v.ownBlock = some k ∨ w0.heap.size ≤ k
  only : Only (foot bl m0 v) w0 wr
theorem visit_v {lo bm bl m0 : Nat} {L : List ByteArray} {v : Value} {t : Tm} {kv : Value} {w : World} {x0 x1 : Int} {x2 : ByteArray} {lk : Nat} (hp : Pt t x0 x1 x2 lk) (hs : St lo bm bl m0 L v w) (ht : t.text.size ≤ 1048576) (hL : L.length ≤ 1000000) :
    Calls Tryd.prog 110 #[.agg #[.int .i64 x0, .int .i64 x1, .string x2, kv], .pointer (some ⟨bm, 0, none⟩), .pointer (some ⟨bl, 0, none⟩)] w (StPost lo bm bl m0 v (visitL L t) w) := by
  rw [← hp.val]
  exact visit_c lo bm bl m0 L v t kv w hs ht hL
set_option maxRecDepth 100000 in
set_option maxHeartbeats 4000000 in
theorem walk_c (B lo bm bl m0 : Nat) (h1 : B ≤ bm) (h2 : B ≤ bl) (h3 : B ≤ m0) (h4 : B ≤ lo) (h : Nat) : ∀ (n : Nat) (L : List ByteArray) (v : Value) (t : Tm) (kv : Value) (w : World), KIn B w n kv t.kids → t.wide ≤ 1048576 → shape h t = true → St lo bm bl m0 L v w → L.length + t.size ≤ 1000000 →
    Calls Tryd.prog 109 #[tmVal t kv, .func (.func 110) #[] #[.pointer (some ⟨bm, 0, none⟩), .pointer (some ⟨bl, 0, none⟩)]] w (StPost lo bm bl m0 v (walkL h L t) w) := by
  induction h with
  | zero => intro n L v t kv w _ _ hs; simp [shape] at hs
  | succ h ih =>
    intro n L v t kv w hr hw hs hst hL
    obtain ⟨_, hks⟩ := shape_at hs
    have HI := hid ih
    have HR := hid hr
    have HWd := hid hw
    have HSh := hid hks
    have HSt := hid hst
    have HW := hid (wide_eq t)
    have HSz := hid (size_eq t)
    have HL := hid hL
    have HVl := hid (visit_len L t)
    have hBw : B ≤ w.heap.size := by have := hst.sz; omega
    have HFoot := hid (fun b (hb : foot bl m0 v b) => hst.foot_lt hb)
    have HFlo := hid (fun b (hb : foot bl m0 v b) => (show B ≤ b by
      rcases hb with rfl | rfl | hb
      · exact h3
      · exact h2
      · have := (hst.own.lt b hb).1; omega))
    clear ih hw hks hs hst hL
    obtain ⟨a, cap, rfl⟩ := hr.slice
    clear hr
    have HWl := hid (show walkL (h + 1) L t = t.kids.foldl (walkL h) (visitL L t) from rfl)
    have htx : t.text.size ≤ 1048576 := by have := HW.out; have := HWd.out; omega
    have HTx := hid htx
    have hv1 : (visitL L t).length ≤ 1000000 := by have := HVl.out; have := HL.out; have := size_pos t; omega
    clear htx
    obtain ⟨x0, x1, x2, lk, hp⟩ := Pt.of t
    rw [hp.val]
    have HP := hid hp
    have hlk := hp.l
    clear hp
    obtain ⟨ks, hks⟩ : ∃ l, t.kids = l := ⟨_, rfl⟩
    rw [hks] at HR HWl HSh HW HSz hlk ⊢
    clear hks
    subst hlk
    have HB0 := hid ((Below.refl w.heap.size w).alloc (Nat.le_refl _) (.cells #[.int .i64 x0, .int .i64 x1, .string x2, .slice a ks.length cap] 28))
    have HX0 := hid (Row.new w 28 #[.int .i64 x0, .int .i64 x1, .string x2, .slice a ks.length cap])
    have hkl : ks.length ≤ 1048576 := by have := HW.out; have := HWd.out; omega
    have hen := visitFn_enter
    go_enter Tryd.func109, Tryd.ntmps109
    go_wp2_with fail
    refine (visit_v HP.out (HSt.out.on HB0.out) HTx.out (by have := HL.out; omega)).mono ?_
    rintro e w1 ⟨v1, rfl, hst1, hat1, hon1⟩
    have HSt1 := hid hst1
    have HOn1 := hid ((Only.of_below HB0.out).trans hon1)
    have HX1 := hid (row_only HX0.out (fun hb => by have := HFoot.out _ hb; omega) hon1)
    have HAt1 := hid (fun k (hk : v1.ownBlock = some k) => (show v.ownBlock = some k ∨ w.heap.size ≤ k by
      rcases hat1 k hk with h | h
      · exact .inl h
      · right; simp at h; omega))
    clear hst1 hat1 hon1
    have d3 := HX1.out.cell 3
    simp at d3
    have hx1 := HX1.out.lt
    go_wp2_with fail
    go_loopw [12] (fun c wr => ∃ (k : Nat) (vk : Value), c = .int .i64 k ∧ k ≤ ks.length ∧ WkRel lo bm bl m0 v w ((ks.take k).foldl (walkL h) (visitL L t)) vk wr ∧ ((ks.take k).foldl (walkL h) (visitL L t)).length ≤ (visitL L t).length + sizes (ks.take k)) (fun c _ => ks.length - (intOf c).toNat)
    case atStart => exact ⟨0, v1, rfl, by omega, ⟨HSt1.out, HAt1.out, HOn1.out⟩, by simp⟩
    case round =>
      obtain ⟨k, vk, rfl, hk, hrel, hlen⟩ := hrel
      have HRel := hid hrel
      have HLen := hid hlen
      have HBw := hid (hrel.only.below hBw (fun b hb => HFlo.out b hb))
      have hz := hrel.only.size
      clear hrel hlen d3
      by_cases hlt : k < ks.length
      · obtain ⟨m, b, o, cap', rfl, hv, hg, hc⟩ := (HR.out.below HBw.out).cells (by omega)
        simp only [Value.slice.injEq, true_and] at hv
        obtain ⟨rfl, rfl⟩ := hv
        obtain ⟨u, q0, q1, q2, q3, hru⟩ := hc k hlt
        obtain ⟨su, cu, rfl⟩ := hru.slice
        have hwk := wides_at ks k hlt
        have HWk := hid (show (ks.getD k tz).wide ≤ 1048576 by have := HW.out; have := HWd.out; omega)
        have HSk := hid (HSh.out k hlt)
        have HSn := hid (sizes_snoc ks k hlt)
        have HSl := hid (sizes_take_le ks (k + 1))
        have HFs := hid (show (ks.take (k + 1)).foldl (walkL h) (visitL L t) = walkL h ((ks.take k).foldl (walkL h) (visitL L t)) (ks.getD k tz) by rw [take_snoc ks k hlt, List.foldl_append]; rfl)
        clear hwk
        obtain ⟨t2, ht⟩ : ∃ t, ks.getD k tz = t := ⟨_, rfl⟩
        rw [ht] at q0 q1 q2 q3 hru HWk HSk HSn HFs
        have HRu := hid hru
        clear hc hru ht
        obtain ⟨y0, y1, y2, ly, hq⟩ := Pt.of t2
        rw [hq.k] at q0
        rw [hq.n] at q1
        rw [hq.s] at q2
        rw [hq.l] at q3 HRu
        have HQ := hid hq
        clear hq
        have HA2 := hid ((Below.refl wr.heap.size wr).alloc (Nat.le_refl _) (.cells #[.int .i64 y0, .int .i64 y1, .string y2, .slice su ly cu] 28))
        obtain ⟨Lk, hLk⟩ : ∃ l, (ks.take k).foldl (walkL h) (visitL L t) = l := ⟨_, rfl⟩
        rw [hLk] at HRel HLen HFs
        clear hLk
        have hlb : Lk.length + t2.size ≤ 1000000 := by have := HLen.out; have := HSn.out; have := HSl.out; have := HSz.out; have := HL.out; have := HVl.out; omega
        have HLb := hid hlb
        clear hlb
        go_wp2_with fail
        rw [← HQ.out.val]
        refine (HI.out m Lk vk t2 _ _ (HRu.out.below (HA2.out.mono (by omega))) HWk.out HSk.out (HRel.out.st.on HA2.out) HLb.out).mono ?_
        rw [HQ.out.val]
        rintro e w3 ⟨v3, rfl, hst3, hat3, hon3⟩
        have HSt3 := hid hst3
        have HAt3 := hid (fun j (hj : v3.ownBlock = some j) => (show v.ownBlock = some j ∨ w.heap.size ≤ j by
          rcases hat3 j hj with h | h
          · exact HRel.out.at_ j h
          · right; simp at h; omega))
        have HOn3 := hid (only_mix (HRel.out.only.trans (Only.of_below HA2.out)) hon3 (fun j hj => by
          rcases hj with hj | hj | hj
          · exact .inl (.inl hj)
          · exact .inl (.inr (.inl hj))
          · rcases HRel.out.at_ j hj with h | h
            · exact .inl (.inr (.inr h))
            · exact .inr h))
        clear hst3 hat3 hon3 q0 q1 q2 q3
        have HWn := hid (walk_len h Lk t2)
        go_wp2_with fail
        go_roundw
        case rel => exact ⟨k + 1, v3, by go_num, by omega, ⟨by rw [HFs.out]; exact HSt3.out, HAt3.out, HOn3.out⟩, by rw [HFs.out]; have := HWn.out; have := HLen.out; have := HSn.out; omega⟩
        case measure => simp [intOf]; omega
      · obtain rfl : k = ks.length := by omega
        rw [List.take_length] at HRel
        go_wp2_with fail
        go_end0
        exact ⟨vk, rfl, by rw [HWl.out]; exact HRel.out.st, HRel.out.at_, HRel.out.only⟩
theorem walk_v {B lo bm bl m0 : Nat} (h1 : B ≤ bm) (h2 : B ≤ bl) (h3 : B ≤ m0) (h4 : B ≤ lo) {h n : Nat} {L : List ByteArray} {v : Value} {t : Tm} {kv : Value} {w : World} {x0 x1 : Int} {x2 : ByteArray} {lk : Nat} (hp : Pt t x0 x1 x2 lk) (hr : KIn B w n kv t.kids) (hw : t.wide ≤ 1048576) (hs : shape h t = true) (hst : St lo bm bl m0 L v w) (hL : L.length + t.size ≤ 1000000) :
    Calls Tryd.prog 109 #[.agg #[.int .i64 x0, .int .i64 x1, .string x2, kv], .func (.func 110) #[] #[.pointer (some ⟨bm, 0, none⟩), .pointer (some ⟨bl, 0, none⟩)]] w (StPost lo bm bl m0 v (walkL h L t) w) := by
  rw [← hp.val]
  exact walk_c B lo bm bl m0 h1 h2 h3 h4 h n L v t kv w hr hw hs hst hL
/-- A list of texts of one's own. -/
def SPost (l : List ByteArray) (w : World) (e : Ending) (w' : World) : Prop := ∃ v, e = .returned v ∧ w'.ownsRow w.heap.size 9 1 v l.length (strs l) ∧ Below w.heap.size w w'
set_option maxRecDepth 100000 in
set_option maxHeartbeats 4000000 in
theorem variables_c (h n : Nat) (t : Tm) (kv : Value) (w : World) (hr : KRd w n kv t.kids) (hw : t.wide ≤ 1048576) (hs : shape h t = true) (hz : t.size ≤ 60) :
    Calls Tryd.prog 65 #[tmVal t kv] w (SPost (walkL h [] t) w) := by
  have HR := hid hr.in_
  have HWd := hid hw
  have HSh := hid hs
  have HZ := hid hz
  obtain ⟨a, cap, rfl⟩ := hr.slice
  clear hr hw hs hz
  obtain ⟨x0, x1, x2, lk, hp⟩ := Pt.of t
  rw [hp.val]
  have HP := hid hp
  rw [hp.l] at HR ⊢
  clear hp
  have hmm := @run_makeMap Tryd.prog
  have ha1 := (Below.refl w.heap.size w).alloc (Nat.le_refl _) (.cells #[.int .i64 x0, .int .i64 x1, .string x2, .slice a lk cap] 28)
  have ha2 := ha1.alloc ha1.size (.cells #[.slice none 0 0] 53)
  have ha3 := ha2.alloc ha2.size (.map #[] 0)
  have HB0 := hid (ha3.alloc ha3.size (.cells #[.map (some (w.heap.size + 1 + 1))] 129))
  have HX0 := hid ((((Row.new w 28 #[.int .i64 x0, .int .i64 x1, .string x2, .slice a lk cap]).alloc (.cells #[.slice none 0 0] 53)).alloc (.map #[] 0)).alloc (.cells #[.map (some (w.heap.size + 1 + 1))] 129))
  have HL0 := hid (((Row.new (w.alloc (.cells #[.int .i64 x0, .int .i64 x1, .string x2, .slice a lk cap] 28)) 53 #[.slice none 0 0]).alloc (.map #[] 0)).alloc (.cells #[.map (some (w.heap.size + 1 + 1))] 129))
  have HE0 := hid ((Ms.eAt_new Ms.encB ((w.alloc (.cells #[.int .i64 x0, .int .i64 x1, .string x2, .slice a lk cap] 28)).alloc (.cells #[.slice none 0 0] 53))).alloc (.cells #[.map (some (w.heap.size + 1 + 1))] 129))
  have HM0 := hid (Row.new (((w.alloc (.cells #[.int .i64 x0, .int .i64 x1, .string x2, .slice a lk cap] 28)).alloc (.cells #[.slice none 0 0] 53)).alloc (.map #[] 0)) 129 #[.map (some (w.heap.size + 1 + 1))])
  simp only [World.size_alloc] at HL0 HE0 HM0
  clear ha1 ha2 ha3
  go_enter Tryd.func65, Tryd.ntmps65
  go_wp2_with fail
  refine (walk_v (B := w.heap.size) (lo := w.heap.size + 4) (bm := w.heap.size + 1 + 1 + 1) (bl := w.heap.size + 1) (m0 := w.heap.size + 1 + 1) (by omega) (by omega) (by omega) (by omega) HP.out (HR.out.below HB0.out) HWd.out HSh.out (L := []) (v := .slice none 0 0) ⟨HM0.out, HE0.out, HL0.out, ⟨by simp [strs], .inl ⟨rfl, rfl⟩⟩, by omega, by omega, by omega, by omega, by omega, by omega, by simp⟩ (by have := HZ.out; simp; omega)).mono ?_
  rintro e w1 ⟨v1, rfl, hst1, hat1, hon1⟩
  have HSt1 := hid hst1
  have HB1 := hid (HB0.out.trans (hon1.below HB0.out.size (fun b hb => by
    rcases hb with rfl | rfl | hb
    · omega
    · omega
    · cases hb)))
  have l0 := hst1.rl.cell 0
  simp at l0
  obtain ⟨s1, c1, hv1⟩ := own_slice hst1.own
  obtain ⟨l, hl⟩ : ∃ l, walkL h [] t = l := ⟨_, rfl⟩
  have HEl := hid hl
  rw [hl] at HSt1 hv1 ⊢
  obtain ⟨ln, hln⟩ : ∃ n, l.length = n := ⟨_, rfl⟩
  rw [hln] at hv1
  subst hv1
  have HLn := hid hln
  clear hst1 hat1 hon1 hl hln
  go_wp2_with fail
  go_ret
  have hof := own_mono HSt1.out.own (show w.heap.size ≤ w.heap.size + 4 by omega)
  exact ⟨.slice s1 ln c1, rfl, by rw [HEl.out]; exact hof, HB1.out⟩
set_option maxHeartbeats 2000000 in
theorem termVars_c (n : Nat) (t : Tm) (kv : Value) (w : World) (hr : KRd w n kv t.kids) (hw : t.wide ≤ 1048576) (hT : Tabs w) :
    Calls Tryd.prog 27 #[tmVal t kv] w (SPost (if termOk t then varsT 14 t else []) w) := by
  have HR := hid hr
  have HWd := hid hw
  have HT := hid hT
  obtain ⟨a, cap, rfl⟩ := hr.slice
  clear hr hw hT
  obtain ⟨x0, x1, x2, lk, hp⟩ := Pt.of t
  rw [hp.val]
  have HP := hid hp
  rw [hp.l] at HR ⊢
  clear hp
  have HB0 := hid ((Below.refl w.heap.size w).alloc (Nat.le_refl _) (.cells #[.int .i64 x0, .int .i64 x1, .string x2, .slice a lk cap] 28))
  have HX0 := hid (Row.new w 28 #[.int .i64 x0, .int .i64 x1, .string x2, .slice a lk cap])
  cases hok : termOk t
  · have HOk := hid hok
    clear hok
    go_enter Tryd.func27, Tryd.ntmps27
    go_wp2_with fail
    refine (termOk_v HP.out (HR.out.on HB0.out) HWd.out (HT.out.on HB0.out) HOk.out).mono ?_
    rintro e w1 ⟨rfl, hb1⟩
    have HB1 := hid (HB0.out.trans (hb1.mono HB0.out.size))
    clear hb1
    go_wp2_with fail
    go_ret
    exact ⟨_, rfl, ⟨by simp [strs], .inl ⟨rfl, rfl⟩⟩, HB1.out⟩
  have HOk := hid hok
  obtain ⟨hsh, hsz⟩ := termOk_bd hok
  have HSh := hid hsh
  have HSz := hid hsz
  have HWk := hid (show walkL 14 [] t = varsT 14 t by
    rw [walk_is 14 [] t hsh]
    have key : ∀ (h : Nat) (t : Tm), joinT [] (varsT h t) = varsT h t := by
      intro h
      induction h with
      | zero => intro t; rfl
      | succ h ih =>
        intro t
        unfold varsT
        split
        · rfl
        · exact (fold_join (f := varsT h) t.kids [] []).symm
    exact key 14 t)
  clear hok hsh hsz
  go_enter Tryd.func27, Tryd.ntmps27
  go_wp2_with fail
  refine (termOk_v HP.out (HR.out.on HB0.out) HWd.out (HT.out.on HB0.out) HOk.out).mono ?_
  rintro e w1 ⟨rfl, hb1⟩
  have HB1 := hid (HB0.out.trans (hb1.mono HB0.out.size))
  have HX1 := hid (HX0.out.on hb1)
  clear hb1
  have d0 := HX1.out.cell 0
  have d1 := HX1.out.cell 1
  have d2 := HX1.out.cell 2
  have d3 := HX1.out.cell 3
  simp at d0 d1 d2 d3
  go_wp2_with fail
  rw [← HP.out.val]
  refine (variables_c 14 n t _ _ (HR.out.on HB1.out) HWd.out HSh.out HSz.out).mono ?_
  rw [HP.out.val, HWk.out]
  rintro e w2 ⟨v, rfl, hown, hb2⟩
  have HO2 := hid (own_mono hown (by have := HB1.out.size; omega : w.heap.size ≤ w1.heap.size))
  have HB2 := hid (HB1.out.trans (hb2.mono HB1.out.size))
  obtain ⟨s1, c1, rfl⟩ := own_slice hown
  obtain ⟨l, hl⟩ : ∃ l, varsT 14 t = l := ⟨_, rfl⟩
  have HEl := hid hl
  rw [hl] at HO2 ⊢
  clear hown hb2 hl
  go_wp2_with fail
  go_ret
  exact ⟨.slice s1 l.length c1, rfl, by rw [HEl.out]; exact HO2.out, HB2.out⟩
end Go.Proofs.YtffibmlgdacafaaDoor.Um
