/- Terms that are drawn: one, variable, term, near of the model's source. -/
import Derived.Test.YtffibmlgdacafaaDoorWk
import Derived.Test.YtffibmlgdacafaaDoorSrc
import Derived.IntWalk
set_option linter.unusedSimpArgs false
set_option linter.unusedVariables false
namespace Go.Proofs.YtffibmlgdacafaaDoor.Um
open Go.RowKit Pl Ft Mm In C2 Im Src

theorem KP.moved {B sb : Nat} {w w' : World} {n : Nat} {v : Value} {ks : List Tm} (h : KP (fun b => B ≤ b) w n v ks) (m : Moved sb w w') (hs : sb < B) : KP (fun b => B ≤ b) w' n v ks := h.keep m.size (fun b hb hl => m.block b hl (by omega))
theorem _root_.Go.Proofs.YtffibmlgdacafaaDoor.Src.Moved.below' {sb : Nat} {w w1 w2 : World} (m : Moved sb w w1) (b : Below w1.heap.size w1 w2) : Moved sb w w2 := m.trans ⟨b.os, b.tape, b.output, b.size, fun k hk _ => b.block k hk⟩
theorem src_same {w w' : World} {sb : Nat} {a : Option Addr} {len cap : Nat} {zs : List Int} {k : Int} (h : Src.Src w sb a len cap zs k) (hz : w.heap.size ≤ w'.heap.size) (hb : ∀ b, b ≤ sb → w'.heap[b]? = w.heap[b]?) : Src.Src w' sb a len cap zs k := by
  refine ⟨(World.cell?_of_block (w := w) (a := ⟨sb, 0, none⟩) (hb sb (Nat.le_refl _))).trans h.code, (World.cell?_of_block (w := w) (a := ⟨sb, 1, none⟩) (hb sb (Nat.le_refl _))).trans h.at_, (World.frozen?_of_block (w := w) (a := ⟨sb, 1, none⟩) (hb sb (Nat.le_refl _))).trans h.free, h.lo, ⟨h.bytes.small, ?_, h.bytes.range⟩, h.apart, Nat.lt_of_lt_of_le h.here hz⟩
  rcases h.bytes.cells with h0 | ⟨b, o, e, hlt, hc⟩
  · exact .inl h0
  · by_cases h0 : len = 0
    · exact .inl h0
    · exact .inr ⟨b, o, e, Nat.lt_of_lt_of_le hlt hz, fun i hi => (World.cell?_of_block (w := w) (a := ⟨b, o + i, none⟩) (hb b (Nat.le_of_lt (h.apart b o e (by omega))))).trans (hc i hi)⟩
theorem _root_.Go.Proofs.YtffibmlgdacafaaDoor.Src.Src.below' {w w' : World} {sb : Nat} {a : Option Addr} {len cap : Nat} {zs : List Int} {k : Int} (h : Src.Src w sb a len cap zs k) (b : Below w.heap.size w w') : Src.Src w' sb a len cap zs k := src_same h b.size (fun k hk => b.block k (by have := h.here; omega))
/-- A term was drawn: its parts lie in new blocks, it is at most W wide; of the bytes at most K were taken. -/
def DrT (sb : Nat) (a : Option Addr) (len cap : Nat) (zs : List Int) (k K : Int) (n W : Nat) (w : World) (e : Ending) (w' : World) : Prop :=
  ∃ (t : Tm) (v : Value) (k' : Int), e = .returned (tmVal t v) ∧ KP (fun b => w.heap.size ≤ b) w' n v t.kids ∧ t.wide ≤ W ∧ k ≤ k' ∧ k' ≤ k + K ∧ Src.Src w' sb a len cap zs k' ∧ Moved sb w w'
/-- A drawn term is put into the result's block, which is the first new one. -/
theorem drt_end {sb : Nat} {a : Option Addr} {len cap : Nat} {zs : List Int} {k k' K : Int} {n W : Nat} {w w2 : World} {t : Tm} {v vv : Value} (hs : sb < w.heap.size) (hS : Src.Src w2 sb a len cap zs k') (hM : Moved sb w w2) (hK : KP (fun b => w.heap.size < b) w2 n v t.kids) (hW : t.wide ≤ W) (h1 : k ≤ k') (h2 : k' ≤ k + K) (hv : vv = tmVal t v) {y0 y1 y2 y3 : Value} :
    DrT sb a len cap zs k K n W w (.returned vv) ((((w2.setCell ⟨w.heap.size, 0, none⟩ y0).setCell ⟨w.heap.size, 1, none⟩ y1).setCell ⟨w.heap.size, 2, none⟩ y2).setCell ⟨w.heap.size, 3, none⟩ y3) := by
  subst hv
  refine ⟨t, v, k', rfl, ?_, hW, h1, h2, src_same hS (by rw [four_size]; exact Nat.le_refl _) (fun b hb => four_far _ _ _ (by omega) _ _ _ _ _ _ _ _), ⟨hM.os, hM.tape, hM.output, by rw [four_size]; exact hM.size, fun b hb hne => (four_far _ _ _ (by omega) _ _ _ _ _ _ _ _).trans (hM.block b hb hne)⟩⟩
  exact (hK.keep (by rw [four_size]; exact Nat.le_refl _) (fun b hb _ => four_far _ _ _ (by omega) _ _ _ _ _ _ _ _)).weak (fun b _ hb => by omega)
theorem srd_moved {w : World} {cs : Array Value} {t : TypeId} {l : List ByteArray} {n cap sb : Nat} (h : cs.toList = l.map Value.string) (hn : n = l.length) (hs : sb < w.heap.size) {x : World} (m : Moved sb (w.alloc (.cells cs t)) x) : SRd x (.slice (some ⟨w.heap.size, 0, none⟩) n cap) l := by
  subst hn
  refine ⟨_, cap, rfl, .inr ⟨_, _, rfl, Nat.lt_of_lt_of_le (Row.new w t cs).lt m.size, fun j hj => ?_⟩⟩
  rw [m.cell (Row.new w t cs).lt (by omega), (Row.new w t cs).cell, Nat.zero_add, ← Array.getElem?_toList, h, List.getElem?_map, List.getElem?_eq_getElem hj]
  simp [hj]
def OneP (sb : Nat) (a : Option Addr) (len cap : Nat) (zs : List Int) (k : Int) (l : List ByteArray) (w : World) (e : Ending) (w' : World) : Prop :=
  ∃ (s : ByteArray) (k' : Int), e = .returned (.string s) ∧ s ∈ l ∧ k ≤ k' ∧ k' ≤ k + 2 ∧ Src.Src w' sb a len cap zs k' ∧ Moved sb w w'
set_option maxHeartbeats 1000000 in
theorem one_c (l : List ByteArray) (v : Value) (sb : Nat) (a : Option Addr) (len cap : Nat) (zs : List Int) (k : Int) (w : World) (h1 : 1 ≤ l.length) (h2 : l.length ≤ 100) (hr : ∀ x, Moved sb w x → SRd x v l) (h : Src.Src w sb a len cap zs k) (hk : k ≤ 999999900) :
    Calls Tryd.prog 96 #[.pointer (some ⟨sb, 0, none⟩), v] w (OneP sb a len cap zs k l w) := by
  obtain ⟨a', cap', rfl, _⟩ := hr w (Moved.refl _ _)
  have HR := hid hr
  have HS := hid h
  clear hr h
  have hne : ((l.length : Int) == 0) = false := beq_false_of_ne (by omega)
  go_enter Tryd.func96, Tryd.ntmps96
  go_wp2_with fail
  refine (pick_c l.length sb a len cap zs k w HS.out (by omega) (by omega)).mono ?_
  rintro e w1 ⟨v1, k1, rfl, ⟨hv0, hv1⟩, hk1, hl1, hs, hm⟩
  obtain ⟨j, rfl⟩ := Int.eq_ofNat_of_zero_le hv0
  have hj : j < l.length := by omega
  obtain ⟨a2, c2, he, hc⟩ := HR.out w1 hm
  simp only [Value.slice.injEq, true_and] at he
  obtain ⟨rfl, rfl⟩ := he
  rcases hc with hn | ⟨g, o, rfl, hg, hc⟩
  · subst hn; simp at hj
  have c0 := hc j hj
  have HMe := hid (show l.getD j ⟨#[]⟩ ∈ l by simp [hj])
  obtain ⟨s, hss⟩ : ∃ s, l.getD j ⟨#[]⟩ = s := ⟨_, rfl⟩
  rw [hss] at c0 HMe
  have HS1 := hid hs
  have HM1 := hid hm
  clear hs hm hc hss
  go_wp2_with fail
  go_ret
  exact ⟨s, k1, rfl, HMe.out, hk1, hl1, HS1.out, HM1.out⟩
def varL : List ByteArray := [⟨#[114, 48]⟩, ⟨#[114, 49]⟩, ⟨#[114, 50]⟩, ⟨#[97]⟩, ⟨#[120]⟩, ⟨#[115, 48]⟩, ⟨#[101]⟩]
theorem var_small {s : ByteArray} (h : s ∈ varL) : s.size ≤ 2 := by
  simp only [varL, List.mem_cons, List.not_mem_nil, or_false] at h
  rcases h with rfl | rfl | rfl | rfl | rfl | rfl | rfl <;> decide
theorem ops_small {s : ByteArray} (h : s ∈ opsTexts) : s.size ≤ 2 := by
  simp only [opsTexts, List.mem_cons, List.not_mem_nil, or_false] at h
  rcases h with rfl | rfl | rfl | rfl | rfl | rfl | rfl | rfl | rfl <;> decide
theorem variable_c (sb : Nat) (a : Option Addr) (len cap : Nat) (zs : List Int) (k : Int) (w : World) (h : Src.Src w sb a len cap zs k) (hk : k ≤ 999999900) :
    Calls Tryd.prog 71 #[.pointer (some ⟨sb, 0, none⟩)] w (OneP sb a len cap zs k varL w) := by
  have hsb := h.here
  have HS := hid h
  clear h
  go_enter Tryd.func71, Tryd.ntmps71
  go_wp2_with fail
  refine (one_c varL _ sb a len cap zs k _ (by decide) (by decide) (fun x m => srd_moved rfl rfl hsb m) (HS.out.alloc _) hk).mono ?_
  rintro e w1 ⟨s, k1, rfl, hs, hk1, hl1, hsr, hm⟩
  have H := hid (And.intro hs (And.intro hsr hm))
  clear hs hsr hm
  go_wp2_with fail
  go_ret
  exact ⟨s, k1, rfl, H.out.1, hk1, hl1, H.out.2.1, ((Moved.refl sb w).alloc _).trans H.out.2.2⟩
def vT (s : ByteArray) : Tm := .mk 1 0 s []
theorem vT_val (s : ByteArray) : tmVal (vT s) (.slice none 0 0) = .agg #[.int .i64 1, .int .i64 0, .string s, .slice none 0 0] := rfl
theorem varTerm_c (s : ByteArray) (w : World) : Calls Tryd.prog 94 #[.string s] w fun e w' => e = .returned (tmVal (vT s) (.slice none 0 0)) ∧ Below w.heap.size w w' := by
  go_enter Tryd.func94, Tryd.ntmps94
  go_wp2_with fail
  refine bodyPost_ret (v := .agg #[.int .i64 1, .int .i64 0, .string s, .slice none 0 0])
    (results_cell_row Tryd.results94 _ _ w.heap.size 28 #[.int .i64 1, .int .i64 0, .string s, .slice none 0 0] (0, 0) _ rfl (Row.new w 28 #[.int .i64 1, .int .i64 0, .string s, .slice none 0 0]) Tryd.underlying28 rfl size_term) rfl ?_
  exact ⟨rfl, (Below.refl _ _).alloc (Nat.le_refl _) _⟩
theorem operatorsM_c (sb : Nat) (w : World) (hs : sb < w.heap.size) : Calls Tryd.prog 97 #[] w fun e w' => ∃ v, e = .returned v ∧ (∀ x, Moved sb w' x → SRd x v opsTexts) ∧ Below w.heap.size w w' := by
  go_enter Tryd.func97, Tryd.ntmps97
  go_wp2_with fail
  go_ret
  exact ⟨_, rfl, fun x m => by refine srd_moved (l := opsTexts) ?_ ?_ hs m <;> rfl, (Below.refl _ _).alloc (Nat.le_refl _) _⟩
theorem vT_wide (s : ByteArray) : (vT s).wide = s.size := by rw [wide_eq, vT]; simp [Tm.kids, Tm.text, wides_nil]
theorem nT_wide (n : Int) : (nT n).wide = 0 := by rw [wide_eq, nT]; simp [Tm.kids, Tm.text, wides_nil, ByteArray.size]
/-- A word or a byte of memory at a drawn place. -/
theorem drt_word {sb : Nat} {a : Option Addr} {len cap : Nat} {zs : List Int} {k k' K : Int} {n W : Nat} {w w2 : World} {t : Tm} {u vv : Value} {kd : Int} {cs : Array Value} (hs : sb < w.heap.size) (hw2 : w.heap.size < w2.heap.size) (hS : Src.Src w2 sb a len cap zs k') (hM : Moved sb w w2) (hK : KP (fun b => w.heap.size < b) w2 n u t.kids) (hW : 1 + t.wide ≤ W) (h1 : k ≤ k') (h2 : k' ≤ k + K)
    (hc : cs.toList = tCells [t] [u]) (hv : vv = .agg #[.int .i64 kd, .int .i64 0, .string ⟨#[]⟩, .slice (some ⟨w2.heap.size, 0, none⟩) 1 1]) {y0 y1 y2 y3 : Value} :
    DrT sb a len cap zs k K (n + 1) W w (.returned vv) (((((w2.setCell ⟨w.heap.size, 0, none⟩ y0).setCell ⟨w.heap.size, 1, none⟩ y1).setCell ⟨w.heap.size, 2, none⟩ y2).setCell ⟨w.heap.size, 3, none⟩ y3).alloc (.cells cs 28)) := by
  subst hv
  have hf := four_size w2 w.heap.size y0 y1 y2 y3 0 1 2 3
  have hal := (Below.refl ((((w2.setCell ⟨w.heap.size, 0, none⟩ y0).setCell ⟨w.heap.size, 1, none⟩ y1).setCell ⟨w.heap.size, 2, none⟩ y2).setCell ⟨w.heap.size, 3, none⟩ y3).heap.size ((((w2.setCell ⟨w.heap.size, 0, none⟩ y0).setCell ⟨w.heap.size, 1, none⟩ y1).setCell ⟨w.heap.size, 2, none⟩ y2).setCell ⟨w.heap.size, 3, none⟩ y3)).alloc (Nat.le_refl _) (.cells cs 28)
  have hrow := own_terms ((((w2.setCell ⟨w.heap.size, 0, none⟩ y0).setCell ⟨w.heap.size, 1, none⟩ y1).setCell ⟨w.heap.size, 2, none⟩ y2).setCell ⟨w.heap.size, 3, none⟩ y3) [t] [u] cs hc (by simp) 1 rfl
  have hK2 := ((hK.keep (w' := ((((w2.setCell ⟨w.heap.size, 0, none⟩ y0).setCell ⟨w.heap.size, 1, none⟩ y1).setCell ⟨w.heap.size, 2, none⟩ y2).setCell ⟨w.heap.size, 3, none⟩ y3)) (by rw [hf]; exact Nat.le_refl _) (fun b hb _ => four_far _ _ _ (by omega) _ _ _ _ _ _ _ _)).on hal).weak (Q := fun b => w.heap.size ≤ b) (fun b _ hb => by omega)
  rw [hf] at hrow
  refine ⟨.mk kd 0 ⟨#[]⟩ [t], .slice (some ⟨w2.heap.size, 0, none⟩) 1 1, k', rfl, kp_not hrow (fun b hb => by omega) hK2, ?_, h1, h2, ?_, ?_⟩
  · rw [wide_eq]; simp [Tm.kids, Tm.text, wides_cons, wides_nil, ByteArray.size]; omega
  · exact (src_same hS (by rw [hf]; exact Nat.le_refl _) (fun b hb => four_far _ _ _ (by omega) _ _ _ _ _ _ _ _)).below' hal
  · exact (show Moved sb w ((((w2.setCell ⟨w.heap.size, 0, none⟩ y0).setCell ⟨w.heap.size, 1, none⟩ y1).setCell ⟨w.heap.size, 2, none⟩ y2).setCell ⟨w.heap.size, 3, none⟩ y3) from ⟨hM.os, hM.tape, hM.output, by rw [hf]; exact hM.size, fun b hb hne => (four_far _ _ _ (by omega) _ _ _ _ _ _ _ _).trans (hM.block b hb hne)⟩).below' hal
set_option maxRecDepth 100000 in
set_option maxHeartbeats 4000000 in
theorem near_c (K : Int) (n W : Nat) (x : Int) (h1 : 1 ≤ x) (h2 : x ≤ 10) (hK : 0 ≤ K) (ih : ∀ (sb : Nat) (a : Option Addr) (len cap : Nat) (zs : List Int) (k : Int) (w : World), Src.Src w sb a len cap zs k → k + K ≤ 999000000 → Calls Tryd.prog 49 #[.pointer (some ⟨sb, 0, none⟩), .int .i64 (x - 1)] w (DrT sb a len cap zs k K n W w))
    (sb : Nat) (a : Option Addr) (len cap : Nat) (zs : List Int) (k : Int) (w : World) (h : Src.Src w sb a len cap zs k) (hk : k + (K + 10) ≤ 999000000) :
    Calls Tryd.prog 95 #[.pointer (some ⟨sb, 0, none⟩), .int .i64 x] w (DrT sb a len cap zs k (K + 10) (n + 1) (W + 10) w) := by
  have HSb := hid h.here
  have HS0 := hid (h.alloc (.cells #[.int .i64 0, .int .i64 0, .string ⟨#[]⟩, .slice none 0 0] 28))
  have HM0 := hid ((Moved.refl sb w).alloc (.cells #[.int .i64 0, .int .i64 0, .string ⟨#[]⟩, .slice none 0 0] 28))
  have HZ0 := hid (Row.new w 28 #[.int .i64 0, .int .i64 0, .string ⟨#[]⟩, .slice none 0 0])
  clear h
  go_enter Tryd.func95, Tryd.ntmps95
  go_wp2_with fail
  refine (pick_c 4 sb a len cap zs k _ HS0.out (by omega) (by omega)).mono ?_
  rintro e w1 ⟨v4, k0, rfl, ⟨v40, v41⟩, hk0, hl0, hs, hm⟩
  have HS1 := hid hs
  have HM1 := hid (HM0.out.trans hm)
  have HZ1 := hid (show Row w1 w.heap.size 28 #[.int .i64 0, .int .i64 0, .string ⟨#[]⟩, .slice none 0 0] from (hm.block _ HZ0.out.lt (by have := HSb.out; omega)).trans HZ0.out)
  clear hs hm
  by_cases e0 : v4 = 0
  · subst e0
    go_wp2_with fail
    have HLtHKt := hid (show w.heap.size < w1.heap.size from HZ1.out.lt)
    refine (ih sb a len cap zs k0 _ HS1.out (by omega)).mono ?_
    rintro e w2 ⟨t, vt, k1, rfl, hkp, hwt, hk1, hl1, hs, hm⟩
    have HS2 := hid hs
    have HM2 := hid (HM1.out.trans hm)
    have HZ2 := hid (show Row w2 w.heap.size 28 #[.int .i64 0, .int .i64 0, .string ⟨#[]⟩, .slice none 0 0] from (hm.block _ HZ1.out.lt (by have := HSb.out; omega)).trans HZ1.out)
    obtain ⟨st, ct, rfl⟩ := hkp.slice
    obtain ⟨t0, t1, t2, lt, hp⟩ := Pt.of t
    have HPt := hid hp
    rw [hp.val]
    rw [hp.l] at hkp ⊢
    have HKt2 := hid hkp
    have HWt := hid hwt
    clear hs hm hkp hp hwt
    have r0 := HZ2.out.cell 0
    have r1 := HZ2.out.cell 1
    have r2 := HZ2.out.cell 2
    have r3 := HZ2.out.cell 3
    simp at r0 r1 r2 r3
    have hfr := HZ2.out.free
    go_wp2_with fail
    clear r0 r1 r2 r3 hfr
    refine bodyPost_ret (v := .agg #[.int .i64 t0, .int .i64 t1, .string t2, .slice st lt ct])
      (results_cell_row Tryd.results95 _ _ w.heap.size 28 #[.int .i64 t0, .int .i64 t1, .string t2, .slice st lt ct] (0, 0) _ rfl (four_row HZ2.out (.int .i64 t0) (.int .i64 t1) (.string t2) (.slice st lt ct)) Tryd.underlying28 rfl size_term) rfl ?_
    exact drt_end (t := t) HSb.out HS2.out HM2.out ((HKt2.out.weak (fun b _ hb => by have := HLtHKt.out; omega)).mono (Nat.le_succ _)) (by have := HWt.out; omega) (by omega) (by omega) (HPt.out.val _).symm
  by_cases e1 : v4 = 1
  · subst e1
    go_wp2_with fail
    refine (variable_c sb a len cap zs k0 _ HS1.out (by omega)).mono ?_
    rintro e w2 ⟨vs, k1, rfl, hvs, hk1, hl1, hs, hm⟩
    have HS2 := hid hs
    have HVvs := hid (var_small hvs)
    have HM2 := hid (HM1.out.trans hm)
    have HZ2 := hid (show Row w2 w.heap.size 28 #[.int .i64 0, .int .i64 0, .string ⟨#[]⟩, .slice none 0 0] from (hm.block _ HZ1.out.lt (by have := HSb.out; omega)).trans HZ1.out)
    clear hs hm hvs
    go_wp2_with fail
    refine (varTerm_c vs _).mono ?_
    rintro e w3 ⟨rfl, hb⟩
    have HM3 := hid (HM2.out.below' hb)
    have HZ3 := hid (HZ2.out.on hb)
    have HS3 := hid (HS2.out.below' hb)
    clear hb
    rw [vT_val]
    go_wp2_with fail
    refine (pick_c 8 sb a len cap zs k1 _ HS3.out (by omega) (by omega)).mono ?_
    rintro e w4 ⟨vn, k2, rfl, ⟨vn0, vn1⟩, hk2, hl2, hs, hm⟩
    have HS4 := hid hs
    have HM4 := hid (HM3.out.trans hm)
    have HZ4 := hid (show Row w4 w.heap.size 28 #[.int .i64 0, .int .i64 0, .string ⟨#[]⟩, .slice none 0 0] from (hm.block _ HZ3.out.lt (by have := HSb.out; omega)).trans HZ3.out)
    clear hs hm
    go_wp2_with fail
    refine (num_w vn (by omega) _).mono ?_
    rintro e w5 ⟨rfl, hb⟩
    have HM5 := hid (HM4.out.below' hb)
    have HZ5 := hid (HZ4.out.on hb)
    have HS5 := hid (HS4.out.below' hb)
    clear hb
    rw [nT_val]
    go_wp2_with fail
    have HBn := hid (fun (wx : World) => (show Calls Tryd.prog 54 #[.string ⟨#[43]⟩, .agg #[.int .i64 1, .int .i64 0, .string vs, .slice none 0 0], .agg #[.int .i64 0, .int .i64 vn, .string ⟨#[]⟩, .slice none 0 0]] wx (MadePost (binT (vT vs) ⟨#[43]⟩ (nT vn)) [.slice none 0 0, .slice none 0 0] wx) from by
      have := bin_c ⟨#[43]⟩ (vT vs) (nT vn) (.slice none 0 0) (.slice none 0 0) wx
      exact this))
    refine (HBn.out _).mono ?_
    rintro e w6 ⟨sN, cN, rfl, hrow, hb⟩
    rw [show tmVal (binT (vT vs) ⟨#[43]⟩ (nT vn)) (.slice sN (binT (vT vs) ⟨#[43]⟩ (nT vn)).kids.length cN) = .agg #[.int .i64 2, .int .i64 0, .string ⟨#[43]⟩, .slice sN 2 cN] from rfl]
    have HRow := hid (show w6.ownsRow w5.heap.size 28 4 (.slice sN 2 cN) 2 (tCells [vT vs, nT vn] [.slice none 0 0, .slice none 0 0]) from hrow)
    have HLb := hid (show w.heap.size < w5.heap.size from HZ5.out.lt)
    have HM6 := hid (HM5.out.below' hb)
    have HZ6 := hid (HZ5.out.on hb)
    have HS6 := hid (HS5.out.below' hb)
    clear hb hrow
    have r0 := HZ6.out.cell 0
    have r1 := HZ6.out.cell 1
    have r2 := HZ6.out.cell 2
    have r3 := HZ6.out.cell 3
    simp at r0 r1 r2 r3
    have hfr := HZ6.out.free
    go_wp2_with fail
    clear r0 r1 r2 r3 hfr
    refine bodyPost_ret (v := .agg #[.int .i64 2, .int .i64 0, .string ⟨#[43]⟩, .slice sN 2 cN])
      (results_cell_row Tryd.results95 _ _ w.heap.size 28 #[.int .i64 2, .int .i64 0, .string ⟨#[43]⟩, .slice sN 2 cN] (0, 0) _ rfl (four_row HZ6.out (.int .i64 2) (.int .i64 0) (.string ⟨#[43]⟩) (.slice sN 2 cN)) Tryd.underlying28 rfl size_term) rfl ?_
    exact drt_end (t := binT (vT vs) ⟨#[43]⟩ (nT vn)) HSb.out HS6.out HM6.out (kp_bin HRow.out (fun b hb => by have := HLb.out; omega) (kp_nil n) (kp_nil n)) (by rw [binT_wide, vT_wide, nT_wide]; have := HVvs.out; show 1 + _ ≤ _; omega) (by omega) (by omega) rfl
  by_cases e2 : v4 = 2
  · subst e2
    go_wp2_with fail
    have HLtHKt := hid (show w.heap.size < w1.heap.size from HZ1.out.lt)
    refine (ih sb a len cap zs k0 _ HS1.out (by omega)).mono ?_
    rintro e w2 ⟨t, vt, k1, rfl, hkp, hwt, hk1, hl1, hs, hm⟩
    have HS2 := hid hs
    have HM2 := hid (HM1.out.trans hm)
    have HZ2 := hid (show Row w2 w.heap.size 28 #[.int .i64 0, .int .i64 0, .string ⟨#[]⟩, .slice none 0 0] from (hm.block _ HZ1.out.lt (by have := HSb.out; omega)).trans HZ1.out)
    obtain ⟨st, ct, rfl⟩ := hkp.slice
    obtain ⟨t0, t1, t2, lt, hp⟩ := Pt.of t
    have HPt := hid hp
    rw [hp.val]
    rw [hp.l] at hkp ⊢
    have HKt2 := hid hkp
    have HWt := hid hwt
    clear hs hm hkp hp hwt
    go_wp2_with fail
    refine (num0_c 7 _).mono ?_
    rintro e w3 ⟨rfl, hb⟩
    have HM3 := hid (HM2.out.below' hb)
    have HZ3 := hid (HZ2.out.on hb)
    have HS3 := hid (HS2.out.below' hb)
    have HKt3 := hid (HKt2.out.on hb)
    clear hb
    rw [nT_val]
    go_wp2_with fail
    have HBn := hid (fun (wx : World) => (show Calls Tryd.prog 54 #[.string ⟨#[38]⟩, .agg #[.int .i64 t0, .int .i64 t1, .string t2, .slice st lt ct], .agg #[.int .i64 0, .int .i64 7, .string ⟨#[]⟩, .slice none 0 0]] wx (MadePost (binT (t) ⟨#[38]⟩ (nT 7)) [.slice st lt ct, .slice none 0 0] wx) from by
      have := bin_c ⟨#[38]⟩ (t) (nT 7) (.slice st lt ct) (.slice none 0 0) wx
      rw [HPt.out.val] at this
      exact this))
    refine (HBn.out _).mono ?_
    rintro e w4 ⟨sN, cN, rfl, hrow, hb⟩
    rw [show tmVal (binT (t) ⟨#[38]⟩ (nT 7)) (.slice sN (binT (t) ⟨#[38]⟩ (nT 7)).kids.length cN) = .agg #[.int .i64 2, .int .i64 0, .string ⟨#[38]⟩, .slice sN 2 cN] from rfl]
    have HRow := hid (show w4.ownsRow w3.heap.size 28 4 (.slice sN 2 cN) 2 (tCells [t, nT 7] [.slice st lt ct, .slice none 0 0]) from hrow)
    have HLb := hid (show w.heap.size < w3.heap.size from HZ3.out.lt)
    have HM4 := hid (HM3.out.below' hb)
    have HZ4 := hid (HZ3.out.on hb)
    have HS4 := hid (HS3.out.below' hb)
    have HKt4 := hid (HKt3.out.on hb)
    clear hb hrow
    have r0 := HZ4.out.cell 0
    have r1 := HZ4.out.cell 1
    have r2 := HZ4.out.cell 2
    have r3 := HZ4.out.cell 3
    simp at r0 r1 r2 r3
    have hfr := HZ4.out.free
    go_wp2_with fail
    clear r0 r1 r2 r3 hfr
    refine bodyPost_ret (v := .agg #[.int .i64 2, .int .i64 0, .string ⟨#[38]⟩, .slice sN 2 cN])
      (results_cell_row Tryd.results95 _ _ w.heap.size 28 #[.int .i64 2, .int .i64 0, .string ⟨#[38]⟩, .slice sN 2 cN] (0, 0) _ rfl (four_row HZ4.out (.int .i64 2) (.int .i64 0) (.string ⟨#[38]⟩) (.slice sN 2 cN)) Tryd.underlying28 rfl size_term) rfl ?_
    exact drt_end (t := binT (t) ⟨#[38]⟩ (nT 7)) HSb.out HS4.out HM4.out (kp_bin HRow.out (fun b hb => by have := HLb.out; omega) (HKt4.out.weak (fun b _ hb => by have := HLtHKt.out; omega)) (kp_nil n)) (by rw [binT_wide, nT_wide]; have := HWt.out; show 1 + _ ≤ _; omega) (by omega) (by omega) rfl
  have b0 : (v4 == 0) = false := by simpa using e0
  have b1 : (v4 == 1) = false := by simpa using e1
  have b2 : (v4 == 2) = false := by simpa using e2
  clear e0 e1 e2
  go_wp2_with fail
  clear b0 b1 b2
  refine (pick_c 12 sb a len cap zs k0 _ HS1.out (by omega) (by omega)).mono ?_
  rintro e w2 ⟨vn, k1, rfl, ⟨vn0, vn1⟩, hk1, hl1, hs, hm⟩
  have HS2 := hid hs
  have HM2 := hid (HM1.out.trans hm)
  have HZ2 := hid (show Row w2 w.heap.size 28 #[.int .i64 0, .int .i64 0, .string ⟨#[]⟩, .slice none 0 0] from (hm.block _ HZ1.out.lt (by have := HSb.out; omega)).trans HZ1.out)
  clear hs hm
  go_wp2_with fail
  refine (num_w vn (by omega) _).mono ?_
  rintro e w3 ⟨rfl, hb⟩
  have HM3 := hid (HM2.out.below' hb)
  have HZ3 := hid (HZ2.out.on hb)
  have HS3 := hid (HS2.out.below' hb)
  clear hb
  rw [nT_val]
  have r0 := HZ3.out.cell 0
  have r1 := HZ3.out.cell 1
  have r2 := HZ3.out.cell 2
  have r3 := HZ3.out.cell 3
  simp at r0 r1 r2 r3
  have hfr := HZ3.out.free
  go_wp2_with fail
  clear r0 r1 r2 r3 hfr
  refine bodyPost_ret (v := .agg #[.int .i64 0, .int .i64 vn, .string ⟨#[]⟩, .slice none 0 0])
    (results_cell_row Tryd.results95 _ _ w.heap.size 28 #[.int .i64 0, .int .i64 vn, .string ⟨#[]⟩, .slice none 0 0] (0, 0) _ rfl (four_row HZ3.out (.int .i64 0) (.int .i64 vn) (.string ⟨#[]⟩) (.slice none 0 0)) Tryd.underlying28 rfl size_term) rfl ?_
  exact drt_end (t := nT vn) HSb.out HS3.out HM3.out (kp_nil _) (by rw [nT_wide]; omega) (by omega) (by omega) rfl
end Go.Proofs.YtffibmlgdacafaaDoor.Um
