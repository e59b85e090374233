/- The program's reader of bytes: take, number. -/
import Derived.Test.YtihhpgklpichgabIm6
import Derived.Test.YtihhpgklpichgabApp
import Derived.Test.YtihhpgklpichgabMark
import Derived.StillTailTactics
set_option linter.unusedSimpArgs false
set_option linter.unusedVariables false
namespace Go.Proofs.Ytihhpgklpichgab.Im
open Go.RowKit Pl Ft Mm In C2

theorem el_int : Try.prog.underlying 22 = some (.slice (Try.prog.elem 22)) := by kernel_rfl
theorem sz_int (w : World) : (sizeOf (Try.prog.elem 22)).run Try.prog w = .ok 1 w := by kernel_rfl
theorem rd_far' {p : Nat → Prop} {w w' : World} {v : Value} {xs : List Int} (h : Rd w v xs) (hv : ∀ a n c, v = .slice (some a) n c → ¬ p a.block) (hb : Only p w w') : Rd w' v xs := by
  obtain ⟨a, cap, e, h⟩ := h
  refine ⟨a, cap, e, ?_⟩
  rcases h with h | ⟨g, o, ea, hg, hc⟩
  · exact .inl h
  · refine .inr ⟨g, o, ea, Nat.lt_of_lt_of_le hg hb.size, fun j hj => ?_⟩
    have hne : ¬ p g := by subst e ea; exact hv _ _ _ rfl
    rw [World.cell?_of_block (w := w) (hb.block g hg hne)]
    exact hc j hj
/-- A part of a slice of numbers. -/
theorem slice_any (a : Option Addr) (l : List Int) (cap p q : Nat) (hn : l.length ≤ cap) (hp : p ≤ q) (hq : q ≤ l.length) (hi : Int) (hhi : hi = (q : Int)) :
    ∃ a', (∀ w, (Instr.sliceAt 22 (.slice a l.length cap) (some (.int .i64 (p : Int))) (some (.int .i64 hi)) none).run Try.prog w = .ok (.slice a' (q - p) (cap - p)) w) ∧
      ∀ w, Rd w (.slice a l.length cap) l → SrcAt w a' (q - p) 1 (ints ((l.drop p).take (q - p))) := by
  subst hhi
  refine ⟨if cap - p = 0 then a else a.map (·.add (p * 1)), fun w => ?_, fun w h => ?_⟩
  · rw [run_sliceAt_slice w _ _ _ _ _ el_int, run_slice_lh w _ _ _ _ el_int _ _ _ _ (by omega) (by omega) (by omega), sz_int]
    simp only [Result.andThen, sliced, Int.toNat_natCast]
    by_cases hc : cap = p
    · rw [if_pos hc, if_pos (by omega)]
    · rw [if_neg hc, if_neg (by omega)]
  · have hl : ((l.drop p).take (q - p)).length = q - p := by rw [List.length_take, List.length_drop]; omega
    refine ⟨by rw [ints_len, hl, Nat.mul_one], ?_⟩
    by_cases h0 : q - p = 0
    · exact .inl h0
    · obtain ⟨a', c', e, h⟩ := h
      simp only [Value.slice.injEq] at e
      obtain ⟨rfl, _, _⟩ := e
      rcases h with h | ⟨g, o, rfl, hg, hc⟩
      · rw [h] at hq; simp at hq; omega
      · refine .inr ⟨⟨g, o + p, none⟩, ?_, fun j u hu => ?_⟩
        · rw [if_neg (by omega), Option.map_some, Nat.mul_one]
          unfold Addr.add
          split <;> simp_all
        · have e : (⟨g, o + p, none⟩ : Addr).add j = ⟨g, o + (p + j), none⟩ := by rw [← Nat.add_assoc]; unfold Addr.add; split <;> simp_all
          have hj : j < q - p := by have := (List.getElem?_eq_some_iff.1 hu).1; rw [ints_len, hl] at this; exact this
          rw [e, hc (p + j) (by omega)]
          simp only [ints, List.getElem?_map, List.getElem?_take_of_lt hj, List.getElem?_drop] at hu
          rw [List.getElem?_eq_getElem (by omega : p + j < l.length)] at hu
          simp only [Option.map_some, Option.some.injEq] at hu
          rw [← hu]
          simp [(by omega : p + j < l.length)]
/-- Block rb holds a reader that stands at place p of the numbers. -/
structure RS (w : World) (rb : Nat) (v : Value) (l : List Int) (p : Nat) : Prop where
  box : Row w rb 107 #[v, .int .i64 p]
  rd : Rd w v l
  cap : CapOk v
  far : ∀ a n c, v = .slice (some a) n c → a.block ≠ rb
  le : p ≤ l.length
  long : l.length ≤ 1048576
theorem RS.step {w w' : World} {rb : Nat} {v : Value} {l : List Int} {p p' : Nat} (h : RS w rb v l p) (hb : Only (· = rb) w w') (hr : Row w' rb 107 #[v, .int .i64 p']) (hp : p' ≤ l.length) : RS w' rb v l p' :=
  ⟨hr, rd_far' h.rd h.far hb, h.cap, h.far, hp, h.long⟩
theorem RS.on {w w' : World} {rb : Nat} {v : Value} {l : List Int} {p : Nat} (h : RS w rb v l p) (hb : Below w.heap.size w w') : RS w' rb v l p :=
  ⟨h.box.on hb, h.rd.on hb, h.cap, h.far, h.le, h.long⟩
theorem rd_fresh {w0 w : World} {v : Value} {xs : List Int} {g : Nat} (h0 : Rd w0 v xs) (h : Rd w v xs) (hg : w0.heap.size ≤ g) (o : Nat) (u : Value) : Rd (w.setCell ⟨g, o, none⟩ u) v xs := by
  obtain ⟨a0, cap0, e0, h0⟩ := h0
  obtain ⟨a, cap, e, h⟩ := h
  rw [e0] at e
  simp only [Value.slice.injEq, true_and] at e
  obtain ⟨rfl, rfl⟩ := e
  refine ⟨a0, cap0, e0, ?_⟩
  rcases h with h | ⟨g1, o1, ea, hg1, hc⟩
  · exact .inl h
  · rcases h0 with h0 | ⟨g2, o2, ea2, hg2, _⟩
    · exact .inl h0
    · rw [ea] at ea2
      simp only [Option.some.injEq, Addr.mk.injEq] at ea2
      refine .inr ⟨g1, o1, ea, by simpa using hg1, fun j hj => ?_⟩
      rw [World.cell?_setCell_other w ⟨g, o, none⟩ ⟨g1, o1 + j, none⟩ u (fun e => by have := congrArg Addr.block e; simp at this; omega)]
      exact hc j hj
theorem RS.fresh {w0 w : World} {rb : Nat} {v : Value} {l : List Int} {p0 p : Nat} {g : Nat} (h0 : RS w0 rb v l p0) (h : RS w rb v l p) (hg : w0.heap.size ≤ g) (o : Nat) (u : Value) : RS (w.setCell ⟨g, o, none⟩ u) rb v l p :=
  ⟨h.box.far (p := ⟨g, o, none⟩) (by have := h0.box.lt; simp; omega) u, rd_fresh h0.rd h.rd hg o u, h.cap, h.far, h.le, h.long⟩
theorem aft_le (l : List Int) (p n : Nat) : aft l p n ≤ l.length := Nat.min_le_right _ _
theorem aft_ge (l : List Int) (p n : Nat) (h : p ≤ l.length) : p ≤ aft l p n := by unfold aft; omega
theorem cut_aft (l : List Int) (p n : Nat) (h : p ≤ l.length) : (l.drop p).take (aft l p n - p) = cut l p n := by
  unfold cut aft
  by_cases hn : p + n ≤ l.length
  · rw [Nat.min_eq_left hn, Nat.add_sub_cancel_left]
  · rw [Nat.min_eq_right (by omega), List.take_of_length_le (by rw [List.length_drop]; exact Nat.le_refl _), List.take_of_length_le (by rw [List.length_drop]; omega)]
theorem cut_len (l : List Int) (p n : Nat) (h : p ≤ l.length) : (cut l p n).length = aft l p n - p := by
  rw [← cut_aft l p n h, List.length_take, List.length_drop]
  have := aft_le l p n
  omega
def TakePost (rb : Nat) (v : Value) (l : List Int) (p n : Nat) (w : World) (e : Ending) (w' : World) : Prop :=
  ∃ v', e = .returned v' ∧ w'.ownsRow w.heap.size 3 1 v' (cut l p n).length (ints (cut l p n)) ∧ RS w' rb v l (aft l p n) ∧ Only (· = rb) w w'
set_option maxHeartbeats 1000000 in
set_option maxRecDepth 100000 in
theorem take_c (rb : Nat) (v : Value) (l : List Int) (p n : Nat) (w : World) (h : RS w rb v l p) (hn : n ≤ 1048576) :
    Calls Try.prog 127 #[.pointer (some ⟨rb, 0, none⟩), .int .i64 n] w (TakePost rb v l p n w) := by
  obtain ⟨a, cap, rfl⟩ := rd_slice h.rd
  have hc := h.cap.of
  have hp := h.le
  have hll := h.long
  have hq := aft_le l p n
  have hq2 := aft_ge l p n hp
  have x0 := h.box.cell 0
  have x1 := h.box.cell 1
  have hfr := h.box.free
  have hlt := h.box.lt
  have H := hid h
  simp at x0 x1
  have HCut := hid (cut_aft l p n hp)
  have HLen := hid (cut_len l p n hp)
  clear h
  obtain ⟨q, hqe⟩ : ∃ q, aft l p n = q := ⟨_, rfl⟩
  have hqm : min ((p : Int) + n) l.length = (q : Int) := by rw [← hqe]; unfold aft; omega
  rw [hqe] at hq hq2 HCut HLen
  obtain ⟨a', hsl, hsrc⟩ := slice_any a l cap p q hc hq2 hq q rfl
  have HSrc := hid hsrc
  have HQ := hid hqe
  clear hqe hsrc
  have HO := hid (show Only (· = rb) w (w.setCell ⟨rb, 1, none⟩ (.int .i64 q)) from (Only.refl (· = rb) w).setCell (g := rb) rfl 1 _)
  have HR := hid (H.out.step HO.out (p' := q) (H.out.box.set 1 (.int .i64 q)) hq)
  go_enter Try.func127, Try.ntmps127
  go_upto_region 3 with fail
  generalize w.setCell ⟨rb, 1, none⟩ (.int .i64 q) = w1 at HO HR ⊢
  clear x0 x1 hfr
  have x0 := HR.out.box.cell 0
  have x1 := HR.out.box.cell 1
  simp at x0 x1
  go_still_tail 10, (by kernel_rfl)
  change wpList _ _ _ _ _ w1.drew
  have HOd := hid (HO.out.trans (.of_below (Below.refl _ _).drew))
  have HRd := hid (HR.out.on (Below.refl _ _).drew)
  clear HO HR x0 x1
  generalize w1.drew = w3 at HOd HRd ⊢
  have hz1 := HOd.out.size
  go_wp2_with (at_builtin; refine app_ints _ rfl _ _ rfl w.heap.size [] (cut l p n) (.slice none 0 0) rfl (World.ownsRow_nil _ _ _ _) _ _ _ rfl HLen.out.symm (by rw [← HCut.out]; exact HSrc.out _ HRd.out.rd) (by have := HLen.out; simp; omega) hz1 ?_)
  intro v' w2 hg
  have HG := hid hg
  clear hg
  go_wp2_with fail
  go_ret
  have hb2 : Below w3.heap.size w3 w2 := ⟨HG.out.bel.os, HG.out.bel.tape, HG.out.bel.output, HG.out.bel.size, fun k hk => HG.out.far k hk (by simp [Value.ownBlock])⟩
  refine ⟨_, rfl, HG.out.own, ?_, HOd.out.trans (.of_below hb2)⟩
  rw [HQ.out]
  exact HRd.out.on hb2
end Go.Proofs.Ytihhpgklpichgab.Im
