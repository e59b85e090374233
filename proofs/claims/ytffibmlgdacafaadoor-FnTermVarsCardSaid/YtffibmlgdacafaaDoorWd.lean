/- Simpler terms: what an operator makes of two same plain terms, by both. -/
import Derived.Test.YtffibmlgdacafaaDoorWc
set_option linter.unusedSimpArgs false
set_option linter.unusedVariables false
namespace Go.Proofs.YtffibmlgdacafaaDoor.Um
open Go.RowKit Pl Ft Mm In C2 Im

theorem nT_val (n : Int) : tmVal (nT n) (.slice none 0 0) = .agg #[.int .i64 0, .int .i64 n, .string ⟨#[]⟩, .slice none 0 0] := rfl
theorem fold_end {m lo G : Nat} {o : Option Tm} {w wf : World} {t : Tm} {a : Option Addr} {c : Nat} {b : Bool} {v : Value} (hb : o.isSome = b) (h : ∀ r, o = some r → t = r ∧ ∀ x : World, wf.heap.size ≤ x.heap.size → (∀ k, k < G ∨ w.heap.size ≤ k → k < wf.heap.size → x.heap[k]? = wf.heap[k]?) → KOwn x m lo x.heap.size (.slice a t.kids.length c) r.kids) (hbl : Below w.heap.size w wf) (hv : v = tmVal t (.slice a t.kids.length c)) : FoldPost m lo G o w (.returned (.tuple #[v, .bool b])) wf := by
  subst hv hb
  exact ⟨t, a, c, rfl, h, hbl⟩
theorem fold_num {m lo G : Nat} {o : Option Tm} {w wf : World} {n : Int} (ho : o = some (nT n)) (hbl : Below w.heap.size w wf) (hl : lo ≤ wf.heap.size) : FoldPost m lo G o w (.returned (.tuple #[.agg #[.int .i64 0, .int .i64 n, .string ⟨#[]⟩, .slice none 0 0], .bool true])) wf := by
  subst ho
  refine fold_end (t := nT n) (a := none) (c := 0) rfl (fun r hr => ?_) hbl rfl
  obtain rfl : nT n = r := Option.some.inj hr
  exact ⟨rfl, fun x hx _ => KOwn.empty (by omega) ⟨by simp, .inl ⟨rfl, rfl⟩⟩ (fun r h => by cases h)⟩
theorem num_c (n : Int) (w : World) : Calls Tryd.prog 93 #[.int .i64 n] w fun e w' => e = .returned (tmVal (nT (n % 65536)) (.slice none 0 0)) ∧ Below w.heap.size w w' := by
  go_enter Tryd.func93, Tryd.ntmps93
  go_wp2_with fail
  refine (C1.swrap_c n _).mono ?_
  rintro e w1 ⟨rfl, rfl⟩
  go_wp2_with fail
  refine bodyPost_ret (v := .agg #[.int .i64 0, .int .i64 (n % 65536), .string ⟨#[]⟩, .slice none 0 0])
    (results_cell_row Tryd.results93 _ _ w.heap.size 28 #[.int .i64 0, .int .i64 (n % 65536), .string ⟨#[]⟩, .slice none 0 0] (0, 0) _ rfl (Row.new w 28 #[.int .i64 0, .int .i64 (n % 65536), .string ⟨#[]⟩, .slice none 0 0]) Tryd.underlying28 rfl size_term) rfl ?_
  exact ⟨rfl, (Below.refl _ _).alloc (Nat.le_refl _) _⟩
theorem num_w (n : Int) (hn : n % 65536 = n) (w : World) : Calls Tryd.prog 93 #[.int .i64 n] w fun e w' => e = .returned (tmVal (nT n) (.slice none 0 0)) ∧ Below w.heap.size w w' := by
  have := num_c n w
  rwa [hn] at this
theorem num0_c (n : Int) (w : World) (hn : n % 65536 = n := by decide) : Calls Tryd.prog 93 #[.int .i64 n] w fun e w' => e = .returned (tmVal (nT n) (.slice none 0 0)) ∧ Below w.heap.size w w' := num_w n hn w
set_option maxHeartbeats 2000000 in
theorem simplerTwice_c (m lo f0 g0 G : Nat) (a : Tm) (va : Value) (s : ByteArray) (w : World) (ho : isOp s = true) (ha : KOwn w m f0 g0 va a.kids) (hlo : lo ≤ f0) (hhi : g0 ≤ G) (hG : G ≤ w.heap.size) :
    Calls Tryd.prog 154 #[tmVal a va, .string s] w (FoldPost m lo G (twiceT a s) w) := by
  obtain ⟨sa, ca, rfl⟩ := ha.slice
  have HLw := hid (show lo ≤ w.heap.size by have := ha.le; omega)
  have HA := hid ha
  have HLo := hid hlo
  have HHi := hid hhi
  have HG := hid hG
  clear ha hlo hhi
  obtain ⟨x0, x1, x2, la, hp⟩ := Pt.of a
  have HP := hid hp
  rw [hp.val]
  rw [hp.l] at HA ⊢
  clear hp
  have HB00 := hid ((Below.refl w.heap.size w).alloc (Nat.le_refl _) (.cells #[.int .i64 x0, .int .i64 x1, .string x2, .slice sa la ca] 28))
  have HB0 := hid (HB00.out.alloc HB00.out.size (.cells #[.int .i64 0, .int .i64 0, .string ⟨#[]⟩, .slice none 0 0] 28))
  have HZ0 := hid (Row.new (w.alloc (.cells #[.int .i64 x0, .int .i64 x1, .string x2, .slice sa la ca] 28)) 28 #[.int .i64 0, .int .i64 0, .string ⟨#[]⟩, .slice none 0 0])
  have HBa := hid (HB00.out.alloc HB00.out.size (.cells #[.int .i64 x0, .int .i64 x1, .string x2, .slice sa la ca] 28))
  have HZa := hid (Row.new (w.alloc (.cells #[.int .i64 x0, .int .i64 x1, .string x2, .slice sa la ca] 28)) 28 #[.int .i64 x0, .int .i64 x1, .string x2, .slice sa la ca])
  simp only [World.size_alloc] at HZ0 HZa
  have HLz := HLw.out
  rcases op_lit ho with rfl | rfl | rfl | rfl | rfl | rfl | rfl | rfl | rfl
  all_goals clear ho
  · rw [show twiceT a _ = none from rfl]
    go_enter Tryd.func154, Tryd.ntmps154
    go_wp2_with fail
    refine bodyPost_ret (v := .tuple #[.agg #[.int .i64 0, .int .i64 0, .string ⟨#[]⟩, .slice none 0 0], .bool false]) ?_ rfl ?_
    · exact results_cell_tmp Tryd.results154 _ _ (w.heap.size + 1) _ _ rfl HZ0.out Tryd.underlying28 size_term
    · exact fold_end (t := tz) (a := none) (c := 0) rfl (fun r hr => by cases hr) HB0.out rfl
  · rw [show twiceT a _ = some (nT 0) from rfl]
    go_enter Tryd.func154, Tryd.ntmps154
    go_wp2_with fail
    refine (numberTerm_c 0 _).mono ?_
    rintro e w1 ⟨rfl, hb1⟩
    have HB1 := hid (HB0.out.trans (hb1.mono HB0.out.size))
    have HZ1 := hid (HZ0.out.on hb1)
    clear hb1
    rw [nT_val]
    have r0 := HZ1.out.cell 0
    have r1 := HZ1.out.cell 1
    have r2 := HZ1.out.cell 2
    have r3 := HZ1.out.cell 3
    simp at r0 r1 r2 r3
    have hfr := HZ1.out.free
    go_wp2_with fail
    clear r0 r1 r2 r3 hfr
    refine bodyPost_ret (v := .tuple #[.agg #[.int .i64 0, .int .i64 0, .string ⟨#[]⟩, .slice none 0 0], .bool true]) ?_ rfl ?_
    · exact results_cell_tmp Tryd.results154 _ _ (w.heap.size + 1) _ _ rfl (four_row HZ1.out (.int .i64 0) (.int .i64 0) (.string ⟨#[]⟩) (.slice none 0 0)) Tryd.underlying28 size_term
    · exact fold_num rfl (four_bel HB1.out (show w.heap.size ≤ w.heap.size + 1 by omega) _ _ _ _) (by rw [four_size]; have := HB1.out.size; omega)
  · rw [show twiceT a _ = none from rfl]
    go_enter Tryd.func154, Tryd.ntmps154
    go_wp2_with fail
    refine bodyPost_ret (v := .tuple #[.agg #[.int .i64 0, .int .i64 0, .string ⟨#[]⟩, .slice none 0 0], .bool false]) ?_ rfl ?_
    · exact results_cell_tmp Tryd.results154 _ _ (w.heap.size + 1) _ _ rfl HZ0.out Tryd.underlying28 size_term
    · exact fold_end (t := tz) (a := none) (c := 0) rfl (fun r hr => by cases hr) HB0.out rfl
  · rw [show twiceT a _ = some a from rfl]
    go_enter Tryd.func154, Tryd.ntmps154
    go_wp2_with fail
    refine bodyPost_ret (v := .tuple #[.agg #[.int .i64 x0, .int .i64 x1, .string x2, .slice sa la ca], .bool true]) ?_ rfl ?_
    · exact results_cell_tmp Tryd.results154 _ _ (w.heap.size + 1) _ _ rfl HZa.out Tryd.underlying28 size_term
    · exact fold_end (t := a) (a := sa) (c := ca) rfl (fun r hr => by obtain rfl : a = r := Option.some.inj hr; exact ⟨rfl, by rw [HP.out.l]; exact fun x hx hk => (keep_old HA.out HHi.out HG.out HBa.out x hk).widen HLo.out (Nat.le_trans HHi.out (Nat.le_trans HG.out (Nat.le_trans HBa.out.size hx)))⟩) HBa.out (by rw [HP.out.l, HP.out.val])
  · rw [show twiceT a _ = some a from rfl]
    go_enter Tryd.func154, Tryd.ntmps154
    go_wp2_with fail
    refine bodyPost_ret (v := .tuple #[.agg #[.int .i64 x0, .int .i64 x1, .string x2, .slice sa la ca], .bool true]) ?_ rfl ?_
    · exact results_cell_tmp Tryd.results154 _ _ (w.heap.size + 1) _ _ rfl HZa.out Tryd.underlying28 size_term
    · exact fold_end (t := a) (a := sa) (c := ca) rfl (fun r hr => by obtain rfl : a = r := Option.some.inj hr; exact ⟨rfl, by rw [HP.out.l]; exact fun x hx hk => (keep_old HA.out HHi.out HG.out HBa.out x hk).widen HLo.out (Nat.le_trans HHi.out (Nat.le_trans HG.out (Nat.le_trans HBa.out.size hx)))⟩) HBa.out (by rw [HP.out.l, HP.out.val])
  · rw [show twiceT a _ = some (nT 0) from rfl]
    go_enter Tryd.func154, Tryd.ntmps154
    go_wp2_with fail
    refine (numberTerm_c 0 _).mono ?_
    rintro e w1 ⟨rfl, hb1⟩
    have HB1 := hid (HB0.out.trans (hb1.mono HB0.out.size))
    have HZ1 := hid (HZ0.out.on hb1)
    clear hb1
    rw [nT_val]
    have r0 := HZ1.out.cell 0
    have r1 := HZ1.out.cell 1
    have r2 := HZ1.out.cell 2
    have r3 := HZ1.out.cell 3
    simp at r0 r1 r2 r3
    have hfr := HZ1.out.free
    go_wp2_with fail
    clear r0 r1 r2 r3 hfr
    refine bodyPost_ret (v := .tuple #[.agg #[.int .i64 0, .int .i64 0, .string ⟨#[]⟩, .slice none 0 0], .bool true]) ?_ rfl ?_
    · exact results_cell_tmp Tryd.results154 _ _ (w.heap.size + 1) _ _ rfl (four_row HZ1.out (.int .i64 0) (.int .i64 0) (.string ⟨#[]⟩) (.slice none 0 0)) Tryd.underlying28 size_term
    · exact fold_num rfl (four_bel HB1.out (show w.heap.size ≤ w.heap.size + 1 by omega) _ _ _ _) (by rw [four_size]; have := HB1.out.size; omega)
  · rw [show twiceT a _ = some (nT 1) from rfl]
    go_enter Tryd.func154, Tryd.ntmps154
    go_wp2_with fail
    refine (numberTerm_c 1 _).mono ?_
    rintro e w1 ⟨rfl, hb1⟩
    have HB1 := hid (HB0.out.trans (hb1.mono HB0.out.size))
    have HZ1 := hid (HZ0.out.on hb1)
    clear hb1
    rw [nT_val]
    have r0 := HZ1.out.cell 0
    have r1 := HZ1.out.cell 1
    have r2 := HZ1.out.cell 2
    have r3 := HZ1.out.cell 3
    simp at r0 r1 r2 r3
    have hfr := HZ1.out.free
    go_wp2_with fail
    clear r0 r1 r2 r3 hfr
    refine bodyPost_ret (v := .tuple #[.agg #[.int .i64 0, .int .i64 1, .string ⟨#[]⟩, .slice none 0 0], .bool true]) ?_ rfl ?_
    · exact results_cell_tmp Tryd.results154 _ _ (w.heap.size + 1) _ _ rfl (four_row HZ1.out (.int .i64 0) (.int .i64 1) (.string ⟨#[]⟩) (.slice none 0 0)) Tryd.underlying28 size_term
    · exact fold_num rfl (four_bel HB1.out (show w.heap.size ≤ w.heap.size + 1 by omega) _ _ _ _) (by rw [four_size]; have := HB1.out.size; omega)
  · rw [show twiceT a _ = some (nT 0) from rfl]
    go_enter Tryd.func154, Tryd.ntmps154
    go_wp2_with fail
    refine (numberTerm_c 0 _).mono ?_
    rintro e w1 ⟨rfl, hb1⟩
    have HB1 := hid (HB0.out.trans (hb1.mono HB0.out.size))
    have HZ1 := hid (HZ0.out.on hb1)
    clear hb1
    rw [nT_val]
    have r0 := HZ1.out.cell 0
    have r1 := HZ1.out.cell 1
    have r2 := HZ1.out.cell 2
    have r3 := HZ1.out.cell 3
    simp at r0 r1 r2 r3
    have hfr := HZ1.out.free
    go_wp2_with fail
    clear r0 r1 r2 r3 hfr
    refine bodyPost_ret (v := .tuple #[.agg #[.int .i64 0, .int .i64 0, .string ⟨#[]⟩, .slice none 0 0], .bool true]) ?_ rfl ?_
    · exact results_cell_tmp Tryd.results154 _ _ (w.heap.size + 1) _ _ rfl (four_row HZ1.out (.int .i64 0) (.int .i64 0) (.string ⟨#[]⟩) (.slice none 0 0)) Tryd.underlying28 size_term
    · exact fold_num rfl (four_bel HB1.out (show w.heap.size ≤ w.heap.size + 1 by omega) _ _ _ _) (by rw [four_size]; have := HB1.out.size; omega)
  · rw [show twiceT a _ = some (nT 0) from rfl]
    go_enter Tryd.func154, Tryd.ntmps154
    go_wp2_with fail
    refine (numberTerm_c 0 _).mono ?_
    rintro e w1 ⟨rfl, hb1⟩
    have HB1 := hid (HB0.out.trans (hb1.mono HB0.out.size))
    have HZ1 := hid (HZ0.out.on hb1)
    clear hb1
    rw [nT_val]
    have r0 := HZ1.out.cell 0
    have r1 := HZ1.out.cell 1
    have r2 := HZ1.out.cell 2
    have r3 := HZ1.out.cell 3
    simp at r0 r1 r2 r3
    have hfr := HZ1.out.free
    go_wp2_with fail
    clear r0 r1 r2 r3 hfr
    refine bodyPost_ret (v := .tuple #[.agg #[.int .i64 0, .int .i64 0, .string ⟨#[]⟩, .slice none 0 0], .bool true]) ?_ rfl ?_
    · exact results_cell_tmp Tryd.results154 _ _ (w.heap.size + 1) _ _ rfl (four_row HZ1.out (.int .i64 0) (.int .i64 0) (.string ⟨#[]⟩) (.slice none 0 0)) Tryd.underlying28 size_term
    · exact fold_num rfl (four_bel HB1.out (show w.heap.size ≤ w.heap.size + 1 by omega) _ _ _ _) (by rw [four_size]; have := HB1.out.size; omega)
end Go.Proofs.YtffibmlgdacafaaDoor.Um
