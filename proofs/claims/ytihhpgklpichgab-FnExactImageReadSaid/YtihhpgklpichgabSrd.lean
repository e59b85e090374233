/- The model's reader of bytes: next, word, some. -/
import Derived.Test.YtihhpgklpichgabRdr3
import Derived.BigQuiet
import Derived.Deep.QuietTactic
set_option linter.unusedSimpArgs false
set_option linter.unusedVariables false
namespace Go.Proofs.Ytihhpgklpichgab.Im
open Go.RowKit Pl Ft Mm In C2

/-- Block rb holds a reader that has been asked for all numbers ahead of place p; b: there were too few. -/
structure SS (w : World) (rb : Nat) (v : Value) (l : List Int) (p : Nat) (b : Bool) : Prop where
  ex : ∃ a : Nat, Row w rb 104 #[v, .int .i64 a, .bool b] ∧ (b = false → a = p) ∧ (b = true → l.length < p ∧ l.length ≤ a) ∧ a ≤ l.length + 2
  rd : Rd w v l
  far : ∀ a n c, v = .slice (some a) n c → a.block ≠ rb
  long : l.length ≤ 1048576
  ge : 2 ≤ p
  ok : b = false → p ≤ l.length ∨ p = 2
theorem SS.lt {w : World} {rb : Nat} {v : Value} {l : List Int} {p : Nat} {b : Bool} (h : SS w rb v l p b) : rb < w.heap.size := by
  obtain ⟨a, hr, _⟩ := h.ex
  exact hr.lt
theorem SS.on {w w' : World} {rb : Nat} {v : Value} {l : List Int} {p : Nat} {b : Bool} (h : SS w rb v l p b) (hb : Below w.heap.size w w') : SS w' rb v l p b := by
  obtain ⟨a, hr, h1, h2, h3⟩ := h.ex
  exact ⟨⟨a, hr.on hb, h1, h2, h3⟩, h.rd.on hb, h.far, h.long, h.ge, h.ok⟩
theorem SS.new {q : Nat → Prop} {w0 w w' : World} {rb : Nat} {v : Value} {l : List Int} {p0 p : Nat} {b0 b : Bool} (h0 : SS w0 rb v l p0 b0) (h : SS w rb v l p b) (ho : Only q w w') (hq : ∀ k, q k → w0.heap.size ≤ k) : SS w' rb v l p b := by
  obtain ⟨a, hr, h1, h2, h3⟩ := h.ex
  exact ⟨⟨a, row_only hr (fun hpr => by have := hq _ hpr; have := h0.lt; omega) ho, h1, h2, h3⟩, rd_new h0.rd h.rd ho hq, h.far, h.long, h.ge, h.ok⟩
theorem SS.fresh {w0 w : World} {rb : Nat} {v : Value} {l : List Int} {p0 p : Nat} {b0 b : Bool} {g : Nat} (h0 : SS w0 rb v l p0 b0) (h : SS w rb v l p b) (hg : w0.heap.size ≤ g) (o : Nat) (u : Value) : SS (w.setCell ⟨g, o, none⟩ u) rb v l p b :=
  h0.new h ((Only.refl (· = g) w).setCell (g := g) rfl o u) (fun k hk => by rw [hk]; exact hg)
theorem SS.far_on {w : World} {rb : Nat} {v : Value} {l : List Int} {p q : Nat} (h : SS w rb v l p true) (hq : l.length < q) (h2 : 2 ≤ q) : SS w rb v l q true := by
  obtain ⟨a, hr, h1, hb, h3⟩ := h.ex
  exact ⟨⟨a, hr, (fun h => by cases h), fun _ => ⟨hq, (hb rfl).2⟩, h3⟩, h.rd, h.far, h.long, h2, (fun h => by cases h)⟩
theorem SS.len_lt {w : World} {rb : Nat} {v : Value} {l : List Int} {p : Nat} (h : SS w rb v l p true) : l.length < p := by
  obtain ⟨a, hr, h1, hb, h3⟩ := h.ex
  exact (hb rfl).1
theorem cut_one (l : List Int) (p : Nat) (h : p < l.length) : cut l p 1 = [l.getD p 0] := by
  unfold cut
  rw [List.drop_eq_getElem_cons h, List.take_succ_cons, List.take_zero]
  simp [h]
theorem numAt_one (l : List Int) (p : Nat) (h : p < l.length) : numAt l p 1 = l.getD p 0 := by
  unfold numAt
  rw [cut_one l p h]
  simp [numIn]
theorem numAt_two (l : List Int) (p : Nat) (h : p + 2 ≤ l.length) : numAt l p 2 = numAt l p 1 + 256 * numAt l (p + 1) 1 := by
  rw [numAt_one l p (by omega), numAt_one l (p + 1) (by omega)]
  unfold numAt cut
  rw [List.drop_eq_getElem_cons (by omega : p < l.length), List.drop_eq_getElem_cons (by omega : p + 1 < l.length), List.take_succ_cons, List.take_succ_cons, List.take_zero]
  simp [numIn, (by omega : p < l.length), (by omega : p + 1 < l.length)]
def NextPost (rb : Nat) (v : Value) (l : List Int) (p n : Nat) (b : Bool) (m : Int) (w : World) (e : Ending) (w' : World) : Prop :=
  ∃ (x : Int) (b' : Bool), e = .returned (.int .i64 x) ∧ 0 ≤ x ∧ x ≤ m ∧ SS w' rb v l (p + n) b' ∧ (b' = false → x = numAt l p n ∧ b = false) ∧ Only (· = rb) w w'
theorem three_row {w : World} {rb : Nat} {v : Value} {a : Int} {b : Bool} (h : Row w rb 104 #[v, .int .i64 a, .bool b]) (a' : Int) : Row (w.setCell ⟨rb, 1, none⟩ (.int .i64 a')) rb 104 #[v, .int .i64 a', .bool b] := h.set 1 _
theorem bad_row {w : World} {rb : Nat} {v : Value} {a : Int} {b : Bool} (h : Row w rb 104 #[v, .int .i64 a, .bool b]) : Row (w.setCell ⟨rb, 2, none⟩ (.bool true)) rb 104 #[v, .int .i64 a, .bool true] := h.set 2 _
theorem Only.same {w w' : World} {rb : Nat} (h : Only (· = rb) w w') (o : Nat) (u : Value) : Only (· = rb) w (w'.setCell ⟨rb, o, none⟩ u) := h.setCell (g := rb) rfl o u
set_option maxHeartbeats 1000000 in
theorem next_r (rb : Nat) (v : Value) (l : List Int) (p : Nat) (b : Bool) (w : World) (h : SS w rb v l p b) (hb : l.all isByte = true) :
    Calls Try.prog 90 #[.pointer (some ⟨rb, 0, none⟩)] w (NextPost rb v l p 1 b 255 w) := by
  obtain ⟨av, cap, rfl⟩ := rd_slice h.rd
  obtain ⟨a, hr, h1, h2, h3⟩ := h.ex
  have hll := h.long
  have HR := hid hr
  have HRd := hid h.rd
  have HFar := hid h.far
  have hge := h.ge
  have HOk := hid h.ok
  have H1 := hid h1
  have H2 := hid h2
  clear h h1 h2
  have x0 := hr.cell 0
  have x1 := hr.cell 1
  have x2 := hr.cell 2
  simp at x0 x1 x2
  have hfr := hr.free
  clear hr
  by_cases hlt : a < l.length
  · have hbf : b = false := by
      cases b
      · rfl
      · have := (H2.out rfl).2; omega
    subst hbf
    obtain rfl : a = p := H1.out rfl
    have hx := isByte_iff.1 (List.all_eq_true.1 hb (l.getD a 0) (by simp [hlt]))
    have HNu := hid (numAt_one l a hlt)
    obtain ⟨x, hxe⟩ : ∃ x, l.getD a 0 = x := ⟨_, rfl⟩
    rw [hxe] at hx HNu
    obtain ⟨hx0, hx1⟩ := hx
    rcases HRd.out with ⟨a', c', e', hh⟩
    simp only [Value.slice.injEq] at e'
    obtain ⟨rfl, _, rfl⟩ := e'
    rcases hh with hh | ⟨g, o, rfl, hg, hc⟩
    · rw [hh] at hlt; simp at hlt
    have q0 := hc a hlt
    rw [hxe] at q0
    have hgr : g ≠ rb := HFar.out ⟨g, o, none⟩ _ _ rfl
    have HB := hid hb
    have hlt2 : (a : Int) < l.length := by omega
    have hge2 : ¬ l.length ≤ a := by omega
    clear hc hb hxe
    go_enter Try.func90, Try.ntmps90
    go_wp2_with fail
    go_quiet (fail)
    go_wp2_with fail
    have HO := hid ((Only.of_below (p := (· = rb)) (below_drewN w nq)).same 1 (.int .i64 ((a : Int) + 1)))
    have HR2 := hid (three_row (HR.out.drewN nq) ((a : Int) + 1))
    generalize (w.drewN nq).setCell ⟨rb, 1, none⟩ (.int .i64 ((a : Int) + 1)) = w2 at HO HR2 ⊢
    have q1 : w2.cell? ⟨g, o + a, none⟩ = some (.int .i64 x) := (World.cell?_of_block (w := w) (HO.out.block g hg hgr)).trans q0
    clear x0 x1 x2 hfr q0
    have x0 := HR2.out.cell 0
    have x1 := HR2.out.cell 1
    simp at x0 x1
    have e0 : (a : Int) + 1 - 1 = a := by omega
    have e1 : IntKind.i64.wrap (a : Int) = a := IntWalk.i64_in _ (by omega)
    go_quiet (fail)
    go_wp2_with fail
    go_ret
    exact ⟨x, false, rfl, hx0, hx1, ⟨⟨a + 1, HR2.out.drewN _, fun _ => rfl, (fun h => by cases h), by omega⟩, rd_far' HRd.out (fun a n c h => HFar.out a n c h) (HO.out.trans (.of_below (below_drewN w2 _))), HFar.out, hll, by omega, fun _ => .inl (by omega)⟩, fun _ => ⟨HNu.out.symm, rfl⟩, HO.out.trans (.of_below (below_drewN w2 _))⟩
  · have hge2 : l.length ≤ a := by omega
    have hlp : l.length < p + 1 := by
      cases b
      · have := H1.out rfl; omega
      · have := (H2.out rfl).1; omega
    go_enter Try.func90, Try.ntmps90
    go_wp2_with fail
    go_quiet (fail)
    go_wp2_with fail
    go_ret
    have HO := hid ((Only.of_below (p := (· = rb)) (below_drewN w nq)).same 2 (.bool true))
    exact ⟨0, true, rfl, by omega, by omega, ⟨⟨a, bad_row (HR.out.drewN nq), (fun h => by cases h), fun _ => ⟨hlp, hge2⟩, by omega⟩, rd_far' HRd.out (fun a n c h => HFar.out a n c h) HO.out, HFar.out, hll, by omega, (fun h => by cases h)⟩, (fun h => by cases h), HO.out⟩
theorem word_r (rb : Nat) (v : Value) (l : List Int) (p : Nat) (b : Bool) (w : World) (h : SS w rb v l p b) (hb : l.all isByte = true) :
    Calls Try.prog 89 #[.pointer (some ⟨rb, 0, none⟩)] w (NextPost rb v l p 2 b 65535 w) := by
  have HB := hid hb
  have H := hid h
  have hge := h.ge
  clear h hb
  go_enter Try.func89, Try.ntmps89
  go_wp2_with fail
  refine (next_r rb v l p b _ H.out HB.out).mono ?_
  rintro e w1 ⟨x, b1, rfl, hx0, hx1, hs1, hv1, ho1⟩
  have HS1 := hid hs1
  have HV1 := hid hv1
  have HO1 := hid ho1
  clear hs1 hv1 ho1
  go_wp2_with fail
  refine (next_r rb v l (p + 1) b1 _ HS1.out HB.out).mono ?_
  rintro e w2 ⟨y, b2, rfl, hy0, hy1, hs2, hv2, ho2⟩
  have HS2 := hid hs2
  have HV2 := hid hv2
  have HO2 := hid (HO1.out.trans ho2)
  clear hs2 hv2 ho2
  go_wp2_with fail
  go_ret
  refine ⟨x + 256 * y, b2, rfl, by omega, by omega, HS2.out, fun h => ?_, HO2.out⟩
  obtain ⟨e2, e3⟩ := HV2.out h
  obtain ⟨e4, e5⟩ := HV1.out e3
  refine ⟨?_, e5⟩
  have hl : p + 2 ≤ l.length := by
    rcases HS2.out.ok h with hl | hl <;> omega
  rw [e2, e4, numAt_two l p hl]
/-- What 'some' returns: some numbers; the right ones if there were enough. -/
def SomePost (rb : Nat) (v : Value) (l : List Int) (p n : Nat) (b : Bool) (w : World) (e : Ending) (w' : World) : Prop :=
  ∃ (v' : Value) (xs : List Int) (b' : Bool), e = .returned v' ∧ w'.ownsRow w.heap.size 3 1 v' xs.length (ints xs) ∧ xs.length ≤ n ∧ xs.all isByte = true ∧ SS w' rb v l (p + n) b' ∧ (b' = false → xs = cut l p n ∧ b = false) ∧ Only (· = rb) w w'
theorem cut_succ (l : List Int) (p k : Nat) (h : p + k < l.length) : cut l p (k + 1) = cut l p k ++ [l.getD (p + k) 0] := by
  unfold cut
  have hl : k < (l.drop p).length := by rw [List.length_drop]; omega
  rw [List.take_succ_eq_append_getElem hl]
  simp [h]
structure SomeRel (rb : Nat) (v : Value) (l : List Int) (p n : Nat) (b : Bool) (w : World) (k : Nat) (u : Value) (xs : List Int) (b' : Bool) (wr : World) : Prop where
  le : k ≤ n
  own : wr.ownsRow w.heap.size 3 1 u xs.length (ints xs)
  len : xs.length = k
  byte : xs.all isByte = true
  rs : SS wr rb v l (p + k) b'
  val : b' = false → xs = cut l p k ∧ b = false
  only : Only (· = rb) w wr
set_option maxHeartbeats 1000000 in
theorem some_r (rb : Nat) (v : Value) (l : List Int) (p n : Nat) (b : Bool) (w : World) (h : SS w rb v l p b) (hb : l.all isByte = true) (hn : n ≤ 65535) :
    Calls Try.prog 91 #[.pointer (some ⟨rb, 0, none⟩), .int .i64 n] w (SomePost rb v l p n b w) := by
  have HB := hid hb
  have H := hid h
  have HL0 := hid (own_lit w [] #[] rfl (by simp) 0 rfl)
  have HR0 := hid (show SomeRel rb v l p n b w 0 (.slice (some ⟨w.heap.size, 0, none⟩) 0 0) [] b (w.alloc (.cells #[] 3)) from
    ⟨by omega, HL0.out, rfl, rfl, h.on ((Below.refl _ _).alloc (Nat.le_refl _) _), fun hb => ⟨by simp [cut], hb⟩, .of_below ((Below.refl _ _).alloc (Nat.le_refl _) _)⟩)
  clear h hb
  go_enter Try.func91, Try.ntmps91
  go_wp2_with fail
  go_loopw [5, 6] (fun u c wr => ∃ (k : Nat) (xs : List Int) (b' : Bool), c = .int .i64 k ∧ SomeRel rb v l p n b w k u xs b' wr) (fun _ c _ => n - (intOf c).toNat)
  case atStart => exact ⟨0, [], b, rfl, HR0.out⟩
  case round =>
    obtain ⟨k, xs, b', rfl, hrel⟩ := hrel
    have HR := hid hrel
    have hk := hrel.le
    obtain ⟨a, hrow, _⟩ := hrel.rs.ex
    have x2 := hrow.cell 2
    simp at x2
    have hzr := hrel.only.size
    have HLen := hid hrel.len
    clear hrel hrow HR0
    by_cases hlt : k < n
    · cases b'
      · go_wp2_with fail
        refine (next_r rb v l (p + k) false _ HR.out.rs HB.out).mono ?_
        rintro e w1 ⟨x, b1, rfl, hx0, hx1, hs1, hv1, ho1⟩
        have HS1 := hid hs1
        have HV1 := hid hv1
        have HO1 := hid ho1
        have hrb := HR.out.rs
        have HOw1 := hid (own_only HR.out.own (fun g hg h => by
          obtain ⟨a', hrow', _⟩ := hrb.ex
          exact no_own hrow' HR.out.own (by decide) (by rw [hg, h])) ho1)
        have hz1 := ho1.size
        clear hs1 hv1 ho1 hrb x2
        go_wp2_with (at_builtin; refine app_ints _ rfl _ _ rfl w.heap.size xs [x] _ rfl (HOw1.out.alloc _) _ _ _ rfl rfl (SrcAt.at_ _ [x] #[.int .i64 x] _ 1 rfl (by simp) rfl) (by have := HLen.out; simp; omega) (by simp; omega) ?_)
        intro v2 w2 hg2
        have HG2 := hid hg2
        clear hg2
        go_wp2_with fail
        go_roundw
        case rel =>
          have hal := (Below.refl w1.heap.size w1).alloc (Nat.le_refl _) (.cells #[.int .i64 x] 3)
          have hge : ∀ g, u5.ownBlock = some g → w.heap.size ≤ g := fun g hg => (HOw1.out.lt g hg).1
          have ho2 : Only (fun g => u5.ownBlock = some g) (w1.alloc (.cells #[.int .i64 x] 3)) w2 := ⟨HG2.out.bel.os, HG2.out.bel.tape, HG2.out.bel.output, HG2.out.bel.size, fun k hk hn => HG2.out.far k hk hn⟩
          have hss := H.out.new (HS1.out.on hal) ho2 hge
          refine ⟨k + 1, xs ++ [x], b1, by go_num, ⟨by omega, HG2.out.own, by rw [List.length_append, HLen.out]; rfl, ?_, hss, fun h => ?_, ((HR.out.only.trans HO1.out).trans (.of_below hal)).new ho2 hge⟩⟩
          · rw [List.all_append, HR.out.byte]
            simp [isByte_iff.2 ⟨hx0, hx1⟩]
          · obtain ⟨e2, e3⟩ := HV1.out h
            obtain ⟨e4, e5⟩ := HR.out.val rfl
            have hge2 := H.out.ge
            have hl : p + k < l.length := by rcases hss.ok h with hl | hl <;> omega
            exact ⟨by rw [e4, e2, cut_succ l p k hl, numAt_one l (p + k) hl], e5⟩
        case measure => simp [intOf]; omega
      · go_wp2_with fail
        go_ret
        have hlp := HR.out.rs.len_lt
        have hge2 := H.out.ge
        exact ⟨_, xs, true, rfl, HR.out.own, by have := HR.out.len; omega, HR.out.byte, HR.out.rs.far_on (by omega) (by omega), (fun h => by cases h), HR.out.only⟩
    · obtain rfl : k = n := by omega
      go_wp2_with fail
      go_ret
      exact ⟨_, xs, b', rfl, HR.out.own, by have := HR.out.len; omega, HR.out.byte, HR.out.rs, HR.out.val, HR.out.only⟩
end Go.Proofs.Ytihhpgklpichgab.Im
