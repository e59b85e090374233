/- formAt: which row of the table a first byte opens. -/
import Derived.Test.YtihhpgklpichgaaGreatC2j
import Derived.RegionTactic
import Derived.BigRegion
set_option linter.unusedSimpArgs false
set_option linter.unusedVariables false
namespace Go.Proofs.YtihhpgklpichgaaGreat.C2
open Go.RowKit Pl Ft Mm In

def formAt (x : Int) : Option IForm := tab.find? (begunOk · x)
def insZero : IIns := ⟨0, 0, 0, 0⟩
def formAtVal (x : Int) : Value := .tuple #[((formAt x).getD .none).val, (((formAt x).map (begunIns · x)).getD insZero).val, .bool (formAt x).isSome]
theorem tab_first : ∀ k, k < 33 → 0 ≤ (tab.getD k .none).first ∧ (tab.getD k .none).first ≤ 255 := by decide +kernel
structure FormAtRel (x : Int) (w : World) (k : Nat) (wr : World) : Prop where
  le : k ≤ 33
  no : ∀ j, j < k → begunOk (tab.getD j .none) x = false
  out : Row wr w.heap.size 196 #[.int .i64 0, .int .i64 0, .int .i64 0, .int .i64 0, .int .i64 0, .int .i64 0, .string ⟨#[]⟩, .string ⟨#[]⟩]
  out2 : Row wr (w.heap.size + 1) 70 #[.int .i64 0, .int .i64 0, .int .i64 0, .int .i64 0]
  bel : Below w.heap.size w wr
theorem FormAtRel.later {x : Int} {w wr w1 : World} {k : Nat} {o o2 : Obj} (hk : k < 33) (h : FormAtRel x w k wr) (ht : begunOk (tab.getD k .none) x = false) (hb : Below (wr.alloc o).heap.size (wr.alloc o) w1) : FormAtRel x w (k + 1) (w1.alloc o2) := by
  refine ⟨by omega, fun j hj => ?_, ((h.out.alloc o).on hb).alloc _, ((h.out2.alloc o).on hb).alloc _, ((h.bel.alloc h.bel.size o).trans (hb.mono (by have := h.bel.size; simp; omega))).alloc (by have := h.bel.size; have := hb.size; simp at this; omega) _⟩
  by_cases hjk : j < k
  · exact h.no j hjk
  · obtain rfl : j = k := by omega
    exact ht
theorem results_cell2_tmp {fn : Func} {p q r : Tmp} {t u : TypeId} (h : fn.results = #[.cell p t, .cell q u, .tmp r]) (tmps : Array Value) (w : World) (g1 g2 : Nat) (cs1 cs2 : Array Value) (fs1 fs2 : Array Field)
    (hp : tmps.getD p undef = .pointer (some ⟨g1, 0, none⟩)) (hq : tmps.getD q undef = .pointer (some ⟨g2, 0, none⟩)) (h1 : Row w g1 t cs1) (h2 : Row w g2 u cs2)
    (hu1 : Tryz.prog.underlying t = some (.struct fs1)) (hi1 : (Tryz.prog.info? t).map (·.size) = some cs1.size)
    (hu2 : Tryz.prog.underlying u = some (.struct fs2)) (hi2 : (Tryz.prog.info? u).map (·.size) = some cs2.size) :
    (results fn tmps).run Tryz.prog w = .ok (.tuple #[.agg cs1, .agg cs2, tmps.getD r undef]) w := by
  have hp' : tmps[p]?.getD undef = .pointer (some ⟨g1, 0, none⟩) := by simpa using hp
  have hq' : tmps[q]?.getD undef = .pointer (some ⟨g2, 0, none⟩) := by simpa using hq
  simp [results, h, hp', hq', asAddr, run_loadVar_row w g1 t t cs1 (0, 0) _ h1 hu1 rfl hi1, run_loadVar_row w g2 u u cs2 (0, 0) _ h2 hu2 rfl hi2]
theorem form_row {w : World} {g : Nat} {x0 x1 x2 x3 x4 x5 x6 x7 : Value} (h : Row w g 196 #[x0, x1, x2, x3, x4, x5, x6, x7]) (op first added fa fb fn : Int) (fol txt : ByteArray) :
    Row ((((((((w.setCell ⟨g, 0, none⟩ (.int .i64 op)).setCell ⟨g, 1, none⟩ (.int .i64 first)).setCell ⟨g, 2, none⟩ (.int .i64 added)).setCell ⟨g, 3, none⟩ (.int .i64 fa)).setCell ⟨g, 4, none⟩ (.int .i64 fb)).setCell ⟨g, 5, none⟩ (.int .i64 fn)).setCell ⟨g, 6, none⟩ (.string fol)).setCell ⟨g, 7, none⟩ (.string txt)) g 196 #[.int .i64 op, .int .i64 first, .int .i64 added, .int .i64 fa, .int .i64 fb, .int .i64 fn, .string fol, .string txt] := by
  have h0 : Row _ g 196 #[.int .i64 op, x1, x2, x3, x4, x5, x6, x7] := h.set 0 (.int .i64 op)
  have h1 : Row _ g 196 #[.int .i64 op, .int .i64 first, x2, x3, x4, x5, x6, x7] := h0.set 1 (.int .i64 first)
  have h2 : Row _ g 196 #[.int .i64 op, .int .i64 first, .int .i64 added, x3, x4, x5, x6, x7] := h1.set 2 (.int .i64 added)
  have h3 : Row _ g 196 #[.int .i64 op, .int .i64 first, .int .i64 added, .int .i64 fa, x4, x5, x6, x7] := h2.set 3 (.int .i64 fa)
  have h4 : Row _ g 196 #[.int .i64 op, .int .i64 first, .int .i64 added, .int .i64 fa, .int .i64 fb, x5, x6, x7] := h3.set 4 (.int .i64 fb)
  have h5 : Row _ g 196 #[.int .i64 op, .int .i64 first, .int .i64 added, .int .i64 fa, .int .i64 fb, .int .i64 fn, x6, x7] := h4.set 5 (.int .i64 fn)
  have h6 : Row _ g 196 #[.int .i64 op, .int .i64 first, .int .i64 added, .int .i64 fa, .int .i64 fb, .int .i64 fn, .string fol, x7] := h5.set 6 (.string fol)
  have h7 : Row _ g 196 #[.int .i64 op, .int .i64 first, .int .i64 added, .int .i64 fa, .int .i64 fb, .int .i64 fn, .string fol, .string txt] := h6.set 7 (.string txt)
  exact h7
theorem form_far {w : World} {g h : Nat} {t : TypeId} {cs : Array Value} (hr : Row w h t cs) (hn : h ≠ g) (y0 y1 y2 y3 y4 y5 y6 y7 : Value) : Row ((((((((w.setCell ⟨g, 0, none⟩ y0).setCell ⟨g, 1, none⟩ y1).setCell ⟨g, 2, none⟩ y2).setCell ⟨g, 3, none⟩ y3).setCell ⟨g, 4, none⟩ y4).setCell ⟨g, 5, none⟩ y5).setCell ⟨g, 6, none⟩ y6).setCell ⟨g, 7, none⟩ y7) h t cs :=
  (((((((hr.far hn _).far hn _).far hn _).far hn _).far hn _).far hn _).far hn _).far hn _
theorem four_row {w : World} {g : Nat} {x0 x1 x2 x3 : Value} (h : Row w g 70 #[x0, x1, x2, x3]) (jop ja jb jn : Int) : Row ((((w.setCell ⟨g, 0, none⟩ (.int .i64 jop)).setCell ⟨g, 1, none⟩ (.int .i64 ja)).setCell ⟨g, 2, none⟩ (.int .i64 jb)).setCell ⟨g, 3, none⟩ (.int .i64 jn)) g 70 #[.int .i64 jop, .int .i64 ja, .int .i64 jb, .int .i64 jn] := (((h.set 0 _).set 1 _).set 2 _).set 3 _
theorem four_far {w : World} {g h : Nat} {t : TypeId} {cs : Array Value} (hr : Row w h t cs) (hn : h ≠ g) (y0 y1 y2 y3 : Value) : Row ((((w.setCell ⟨g, 0, none⟩ y0).setCell ⟨g, 1, none⟩ y1).setCell ⟨g, 2, none⟩ y2).setCell ⟨g, 3, none⟩ y3) h t cs := (((hr.far hn _).far hn _).far hn _).far hn _
theorem form_bel {B : Nat} {w w' : World} {g : Nat} (h : Below B w w') (hg : B ≤ g) (y0 y1 y2 y3 y4 y5 y6 y7 : Value) : Below B w ((((((((w'.setCell ⟨g, 0, none⟩ y0).setCell ⟨g, 1, none⟩ y1).setCell ⟨g, 2, none⟩ y2).setCell ⟨g, 3, none⟩ y3).setCell ⟨g, 4, none⟩ y4).setCell ⟨g, 5, none⟩ y5).setCell ⟨g, 6, none⟩ y6).setCell ⟨g, 7, none⟩ y7) := by
  have h0 := h.setCell (p := ⟨g, 0, none⟩) hg y0
  have h1 := h0.setCell (p := ⟨g, 1, none⟩) hg y1
  have h2 := h1.setCell (p := ⟨g, 2, none⟩) hg y2
  have h3 := h2.setCell (p := ⟨g, 3, none⟩) hg y3
  have h4 := h3.setCell (p := ⟨g, 4, none⟩) hg y4
  have h5 := h4.setCell (p := ⟨g, 5, none⟩) hg y5
  have h6 := h5.setCell (p := ⟨g, 6, none⟩) hg y6
  exact h6.setCell (p := ⟨g, 7, none⟩) hg y7
theorem four_bel {B : Nat} {w w' : World} {g : Nat} (h : Below B w w') (hg : B ≤ g) (y0 y1 y2 y3 : Value) : Below B w ((((w'.setCell ⟨g, 0, none⟩ y0).setCell ⟨g, 1, none⟩ y1).setCell ⟨g, 2, none⟩ y2).setCell ⟨g, 3, none⟩ y3) := by
  have h0 := h.setCell (p := ⟨g, 0, none⟩) hg y0
  have h1 := h0.setCell (p := ⟨g, 1, none⟩) hg y1
  have h2 := h1.setCell (p := ⟨g, 2, none⟩) hg y2
  exact h2.setCell (p := ⟨g, 3, none⟩) hg y3
theorem size_form : (Tryz.prog.info? 196).map (·.size) = some 8 := by kernel_rfl
theorem size_four : (Tryz.prog.info? 70).map (·.size) = some 4 := by kernel_rfl
set_option maxHeartbeats 2000000 in
theorem formAt_c (x : Int) (h2 : -1000 ≤ x) (h3 : x ≤ 1000) (w : World) :
    Calls Tryz.prog 174 #[.int .i64 x] w fun e w' => e = .returned (formAtVal x) ∧ Below w.heap.size w w' := by
  go_enter Tryz.func174, Tryz.ntmps174
  go_wp2_with (go_at_call 188; refine (forms_c _).mono ?_; rintro e w1 ⟨rfl, hb⟩; obtain ⟨hc, hf⟩ := bcell hb)
  go_loopw [10] (fun v wr => ∃ k : Nat, v = .int .i64 k ∧ FormAtRel x w k wr) (fun v _ => 33 - (intOf v).toNat)
  case atStart =>
    refine ⟨0, rfl, by omega, fun j hj => by omega, ?_, ?_, ?_⟩
    · exact (((Row.new w _ _).alloc _).on hb)
    · have := (Row.new (w.alloc (.cells #[.int .i64 0, .int .i64 0, .int .i64 0, .int .i64 0, .int .i64 0, .int .i64 0, .string ⟨#[]⟩, .string ⟨#[]⟩] 196)) 70 #[.int .i64 0, .int .i64 0, .int .i64 0, .int .i64 0])
      simp only [World.size_alloc] at this
      exact this.on hb
    · exact (((Below.refl _ _).alloc (Nat.le_refl _) _).alloc (by simp) _).trans (hb.mono (by simp; omega))
  case round =>
    obtain ⟨k, rfl, hrel⟩ := hrel
    have HR := hid hrel
    have hk := hrel.le
    have hz := hrel.out2.lt
    have hz0 : w.heap.size < wr.heap.size := by omega
    clear hc hf hb hrel
    by_cases hlt : k < 33
    · have hix := tab_index k hlt
      have hfi := tab_first k hlt
      obtain ⟨f, hf⟩ : ∃ f, tab.getD k .none = f := ⟨_, rfl⟩
      rw [hf] at hix hfi
      have HF := hid hf
      obtain ⟨hfi0, hfi1⟩ := hfi
      clear hf
      cases ht : begunOk f x
      · obtain ⟨op, first, added, fa, fb, fn, fol, txt⟩ := f
        obtain ⟨j1, hj1⟩ : ∃ i, begunIns ⟨op, first, added, fa, fb, fn, fol, txt⟩ x = i := ⟨_, rfl⟩
        have HJ1 := hid hj1
        have HT := hid ht
        clear ht hj1
        obtain ⟨jop, ja, jb, jn⟩ := j1
        unfold IForm.val at hix
        go_wp2_with fail
        refine (begun_c ⟨op, first, added, fa, fb, fn, fol, txt⟩ x hfi0 hfi1 h2 h3 _).mono ?_
        rw [HT.out, HJ1.out]
        rintro e w1 ⟨rfl, hb⟩
        unfold IIns.val
        simp only
        go_wp2_with fail
        go_roundw
        case rel => exact ⟨k + 1, by go_num, .later hlt HR.out (by rw [HF.out]; exact HT.out) hb⟩
        case measure => simp [intOf]; omega
      · obtain ⟨op, first, added, fa, fb, fn, fol, txt⟩ := f
        obtain ⟨j1, hj1⟩ : ∃ i, begunIns ⟨op, first, added, fa, fb, fn, fol, txt⟩ x = i := ⟨_, rfl⟩
        have hfind : formAt x = some ⟨op, first, added, fa, fb, fn, fol, txt⟩ := by
          have := find_at (begunOk · x) .none tab k (by rw [tab_len]; exact hlt) HR.out.no (by rw [HF.out]; exact ht)
          rw [HF.out] at this
          exact this
        have HFd := hid hfind
        have HJ1 := hid hj1
        have HT := hid ht
        clear ht hj1 hfind
        obtain ⟨jop, ja, jb, jn⟩ := j1
        unfold IForm.val at hix
        go_wp2_with fail
        refine (begun_c ⟨op, first, added, fa, fb, fn, fol, txt⟩ x hfi0 hfi1 h2 h3 _).mono ?_
        rw [HT.out, HJ1.out]
        rintro e w1 ⟨rfl, hb⟩
        unfold IIns.val
        simp only
        obtain ⟨hc, hf⟩ := bcell hb
        have HB1 := hid ((HR.out.bel.alloc HR.out.bel.size _).trans (hb.mono (by have := HR.out.bel.size; simp; omega)))
        have hz1 : w.heap.size + 1 < w1.heap.size := ((HR.out.out2.alloc _).on hb).lt
        have hz1' : w.heap.size < w1.heap.size := by omega
        have ROut := hid ((HR.out.out.alloc _).on hb)
        have ROut2 := hid ((HR.out.out2.alloc _).on hb)
        have hz2 := hb.size
        simp only [World.size_alloc] at hz2
        have hz3 : wr.heap.size < w1.heap.size := by omega
        clear hb
        have fr := HR.out.out.free
        have fr2 := HR.out.out2.free
        have o0 := HR.out.out.cell 0
        have o1 := HR.out.out.cell 1
        have o2 := HR.out.out.cell 2
        have o3 := HR.out.out.cell 3
        have o4 := HR.out.out.cell 4
        have o5 := HR.out.out.cell 5
        have o6 := HR.out.out.cell 6
        have o7 := HR.out.out.cell 7
        have p0 := HR.out.out2.cell 0
        have p1 := HR.out.out2.cell 1
        have p2 := HR.out.out2.cell 2
        have p3 := HR.out.out2.cell 3
        simp at o0 o1 o2 o3 o4 o5 o6 o7 p0 p1 p2 p3
        go_wp2_with fail
        go_region
        clear hc hf fr fr2 hix o0 o1 o2 o3 o4 o5 o6 o7 p0 p1 p2 p3
        go_step
        go_step
        go_step
        go_step
        simp +zetaDelta only [Exit.inBlock, Exit.then]
        refine bodyPost_ret (v := .tuple #[.agg #[.int .i64 op, .int .i64 first, .int .i64 added, .int .i64 fa, .int .i64 fb, .int .i64 fn, .string fol, .string txt], .agg #[.int .i64 jop, .int .i64 ja, .int .i64 jb, .int .i64 jn], .bool true]) ?_ rfl ?_
        · refine results_cell2_tmp Tryz.results174 _ _ w.heap.size (w.heap.size + 1) #[.int .i64 op, .int .i64 first, .int .i64 added, .int .i64 fa, .int .i64 fb, .int .i64 fn, .string fol, .string txt] #[.int .i64 jop, .int .i64 ja, .int .i64 jb, .int .i64 jn] _ _ ?p1 ?p2 ?r1 ?r2 Tryz.underlying196 size_form Tryz.underlying70 size_four
          case p1 => rfl
          case p2 => rfl
          case r1 => with_reducible exact ((four_far (form_row ROut.out op first added fa fb fn fol txt) (Nat.ne_of_lt (Nat.lt_succ_self _)) _ _ _ _).alloc _).drew
          case r2 => with_reducible exact ((four_row (form_far ROut2.out (Nat.succ_ne_self _) _ _ _ _ _ _ _ _) jop ja jb jn).alloc _).drew
        refine ⟨by unfold formAtVal; rw [HFd.out, Option.map_some, HJ1.out]; rfl, ?_⟩
        have e1 := HB1.out.size
        have X := four_bel (form_bel HB1.out (Nat.le_refl _) (.int .i64 op) (.int .i64 first) (.int .i64 added) (.int .i64 fa) (.int .i64 fb) (.int .i64 fn) (.string fol) (.string txt)) (Nat.le_succ _) (.int .i64 jop) (.int .i64 ja) (.int .i64 jb) (.int .i64 jn)
        with_reducible exact (X.alloc X.size _).drew
    · obtain rfl : k = 33 := by omega
      have hfind : formAt x = Option.none := find_no (begunOk · x) .none tab (fun j hj => HR.out.no j (by rw [tab_len] at hj; exact hj))
      have HFd := hid hfind
      clear hfind
      have fr := HR.out.out.free
      have fr2 := HR.out.out2.free
      have o0 := HR.out.out.cell 0
      have o1 := HR.out.out.cell 1
      have o2 := HR.out.out.cell 2
      have o3 := HR.out.out.cell 3
      have o4 := HR.out.out.cell 4
      have o5 := HR.out.out.cell 5
      have o6 := HR.out.out.cell 6
      have o7 := HR.out.out.cell 7
      have p0 := HR.out.out2.cell 0
      have p1 := HR.out.out2.cell 1
      have p2 := HR.out.out2.cell 2
      have p3 := HR.out.out2.cell 3
      simp at o0 o1 o2 o3 o4 o5 o6 o7 p0 p1 p2 p3
      go_wp2_with fail
      refine bodyPost_ret (v := .tuple #[.agg #[.int .i64 0, .int .i64 0, .int .i64 0, .int .i64 0, .int .i64 0, .int .i64 0, .string ⟨#[]⟩, .string ⟨#[]⟩], .agg #[.int .i64 0, .int .i64 0, .int .i64 0, .int .i64 0], .bool false]) ?_ rfl ?_
      · refine results_cell2_tmp Tryz.results174 _ _ w.heap.size (w.heap.size + 1) #[.int .i64 0, .int .i64 0, .int .i64 0, .int .i64 0, .int .i64 0, .int .i64 0, .string ⟨#[]⟩, .string ⟨#[]⟩] #[.int .i64 0, .int .i64 0, .int .i64 0, .int .i64 0] _ _ ?q1 ?q2 ?s1 ?s2 Tryz.underlying196 size_form Tryz.underlying70 size_four
        case q1 => rfl
        case q2 => rfl
        case s1 => with_reducible exact four_far (form_row HR.out.out 0 0 0 0 0 0 ⟨#[]⟩ ⟨#[]⟩) (Nat.ne_of_lt (Nat.lt_succ_self _)) _ _ _ _
        case s2 => with_reducible exact four_row (form_far HR.out.out2 (Nat.succ_ne_self _) _ _ _ _ _ _ _ _) 0 0 0 0
      · refine ⟨by unfold formAtVal; rw [HFd.out]; rfl, ?_⟩
        have e1 := HR.out.bel.size
        with_reducible exact four_bel (form_bel HR.out.bel (Nat.le_refl _) _ _ _ _ _ _ _ _) (Nat.le_succ _) _ _ _ _
end Go.Proofs.YtihhpgklpichgaaGreat.C2
