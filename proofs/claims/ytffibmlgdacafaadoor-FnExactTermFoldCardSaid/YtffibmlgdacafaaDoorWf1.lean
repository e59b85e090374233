/- Simpler terms: a term with an operator and a word behind it, by the program: the switch; where nothing changes. -/
import Derived.Test.YtffibmlgdacafaaDoorWe
import Derived.Deep.RegionHeld3
set_option linter.unusedSimpArgs false
set_option linter.unusedVariables false
namespace Go.Proofs.YtffibmlgdacafaaDoor.Um
open Go.RowKit Pl Ft Mm In C2 Im

theorem wb_fields : Tryd.prog.underlying 164 = some (.struct (Tryd.prog.fieldsOf 164)) := by kernel_rfl
theorem wb_held : Tryd.prog.stoodInHeld 164 = false := by kernel_rfl
theorem wb_guard : Tryd.prog.eqGuardType Tryd.prog.depth 164 = false := by kernel_rfl
theorem eql_wb (s t : ByteArray) (x y : Int) {b : Bool} (hb : ((s.data.toList == t.data.toList) && (x == y)) = b) (w : World) : (binOp .eql 164 (.agg #[.string s, .int .i64 x]) (.agg #[.string t, .int .i64 y])).run Tryd.prog w = .ok (.bool b) w := by
  have hu := wb_fields.symm.trans Tryd.underlying164
  simp only [Option.some.injEq, TypeDesc.struct.injEq] at hu
  rw [← ByteArray.toList_eq, ← ByteArray.toList_eq] at hb
  rw [run_eql_struct, run_equalIn_agg _ _ _ _ _ wb_fields wb_held, hu, ← hb]
  cases h : (s.toList == t.toList)
  · simp [Op.eqFields, part, go_sem, Tryd.underlying9, Tryd.underlying3, h]
  · by_cases hx : x = y
    · simp [Op.eqFields, part, go_sem, Tryd.underlying9, Tryd.underlying3, h, hx]
    · simp [Op.eqFields, part, go_sem, Tryd.underlying9, Tryd.underlying3, h, hx]
theorem guard_wb (op : BinOp) (a b : Operand) (xs ys : Array Value) (w : World) : (eqGuard op 164 a b (.agg xs) (.agg ys)).run Tryd.prog w = .ok () w := run_eqGuard_agg w op 164 a b xs ys wb_guard
theorem isPlain_v {t : Tm} {x0 x1 : Int} {x2 : ByteArray} {lk : Nat} (hp : Pt t x0 x1 x2 lk) {h n : Nat} {kv : Value} {w : World} (hs : shape h t = true) (hr : KRd w n kv t.kids) :
    Calls Tryd.prog 152 #[.agg #[.int .i64 x0, .int .i64 x1, .string x2, kv]] w fun e w' => e = .returned (.bool t.plain) ∧ Below w.heap.size w w' := by
  rw [← hp.val]
  exact isPlain_c h n t kv w hr hs
theorem isTruth_v {t : Tm} {x0 x1 : Int} {x2 : ByteArray} {lk : Nat} (hp : Pt t x0 x1 x2 lk) {h : Nat} {kv : Value} {w : World} (hs : shape h t = true) (hT : Tabs w) :
    Calls Tryd.prog 155 #[.agg #[.int .i64 x0, .int .i64 x1, .string x2, kv]] w fun e w' => e = .returned (.bool (truthT t)) ∧ Below w.heap.size w w' := by
  rw [← hp.val]
  cases h with
  | zero => simp [shape] at hs
  | succ g => exact isTruth_c t kv w (shape_at hs).1 hT
set_option maxRecDepth 100000 in
set_option maxHeartbeats 8000000 in
theorem ahead_add_0 (m lo f0 g0 G h : Nat) (a : Tm) (va : Value) (w : World) (hs : shape h a = true) (ha : KOwn w m f0 g0 va a.kids) (hlo : lo ≤ f0) (hhi : g0 ≤ G) (hG : G ≤ w.heap.size) (hT : Tabs w) :
    Calls Tryd.prog 151 #[tmVal a va, .string ⟨#[43]⟩, .int .i64 0] w (FoldPost (m + 1) lo G (rightT a ⟨#[43]⟩ 0) w) := by
  obtain ⟨sa, ca, rfl⟩ := ha.slice
  have HLw := hid (show lo ≤ w.heap.size by have := ha.le; omega)
  have HA := hid ha
  have HLo := hid hlo
  have HHi := hid hhi
  have HG := hid hG
  have HT := hid hT
  have HSh := hid hs
  clear ha hlo hhi hT hs hG
  obtain ⟨x0, x1, x2, la, hp⟩ := Pt.of a
  have HP := hid hp
  rw [hp.val]
  rw [hp.l] at HA ⊢
  clear hp
  have HB00 := hid ((Below.refl w.heap.size w).alloc (Nat.le_refl _) (.cells #[.int .i64 x0, .int .i64 x1, .string x2, .slice sa la ca] 28))
  have HB0 := hid (HB00.out.alloc HB00.out.size (.cells #[.int .i64 0, .int .i64 0, .string ⟨#[]⟩, .slice none 0 0] 28))
  have HZ0 := hid (Row.new (w.alloc (.cells #[.int .i64 x0, .int .i64 x1, .string x2, .slice sa la ca] 28)) 28 #[.int .i64 0, .int .i64 0, .string ⟨#[]⟩, .slice none 0 0])
  have HX0 := hid ((Row.new w 28 #[.int .i64 x0, .int .i64 x1, .string x2, .slice sa la ca]).alloc (.cells #[.int .i64 0, .int .i64 0, .string ⟨#[]⟩, .slice none 0 0] 28))
  have HBa := hid (HB00.out.alloc HB00.out.size (.cells #[.int .i64 x0, .int .i64 x1, .string x2, .slice sa la ca] 28))
  have HZa := hid (Row.new (w.alloc (.cells #[.int .i64 x0, .int .i64 x1, .string x2, .slice sa la ca] 28)) 28 #[.int .i64 x0, .int .i64 x1, .string x2, .slice sa la ca])
  simp only [World.size_alloc] at HZ0 HZa
  have q0 := eql_wb ⟨#[43]⟩ ⟨#[43]⟩ 0 0 (b := true) (by decide)
  have hgd := fun op a b ys => guard_wb op a b #[.string ⟨#[43]⟩, .int .i64 0] ys
  go_enter Tryd.func151, Tryd.ntmps151
  go_wp2_with fail
  clear hgd q0
  refine bodyPost_ret (v := .tuple #[.agg #[.int .i64 x0, .int .i64 x1, .string x2, .slice sa la ca], .bool true]) ?_ rfl ?_
  · exact results_cell_tmp Tryd.results151 _ _ (w.heap.size + 1) _ _ rfl HZa.out Tryd.underlying28 size_term
  · rw [show rightT a ⟨#[43]⟩ 0 = some a from rfl]
    exact fold_end (t := a) (a := sa) (c := ca) rfl (fun r hr => by obtain rfl : a = r := Option.some.inj hr; exact ⟨rfl, by rw [HP.out.l]; exact fun x hx hk => (((keep_old HA.out HHi.out HG.out HBa.out x hk).widen HLo.out (Nat.le_trans HHi.out (Nat.le_trans HG.out (Nat.le_trans HBa.out.size hx)))).mono (Nat.le_succ _))⟩) HBa.out (by rw [HP.out.l, HP.out.val])
set_option maxRecDepth 100000 in
set_option maxHeartbeats 8000000 in
theorem ahead_sub_0 (m lo f0 g0 G h : Nat) (a : Tm) (va : Value) (w : World) (hs : shape h a = true) (ha : KOwn w m f0 g0 va a.kids) (hlo : lo ≤ f0) (hhi : g0 ≤ G) (hG : G ≤ w.heap.size) (hT : Tabs w) :
    Calls Tryd.prog 151 #[tmVal a va, .string ⟨#[45]⟩, .int .i64 0] w (FoldPost (m + 1) lo G (rightT a ⟨#[45]⟩ 0) w) := by
  obtain ⟨sa, ca, rfl⟩ := ha.slice
  have HLw := hid (show lo ≤ w.heap.size by have := ha.le; omega)
  have HA := hid ha
  have HLo := hid hlo
  have HHi := hid hhi
  have HG := hid hG
  have HT := hid hT
  have HSh := hid hs
  clear ha hlo hhi hT hs hG
  obtain ⟨x0, x1, x2, la, hp⟩ := Pt.of a
  have HP := hid hp
  rw [hp.val]
  rw [hp.l] at HA ⊢
  clear hp
  have HB00 := hid ((Below.refl w.heap.size w).alloc (Nat.le_refl _) (.cells #[.int .i64 x0, .int .i64 x1, .string x2, .slice sa la ca] 28))
  have HB0 := hid (HB00.out.alloc HB00.out.size (.cells #[.int .i64 0, .int .i64 0, .string ⟨#[]⟩, .slice none 0 0] 28))
  have HZ0 := hid (Row.new (w.alloc (.cells #[.int .i64 x0, .int .i64 x1, .string x2, .slice sa la ca] 28)) 28 #[.int .i64 0, .int .i64 0, .string ⟨#[]⟩, .slice none 0 0])
  have HX0 := hid ((Row.new w 28 #[.int .i64 x0, .int .i64 x1, .string x2, .slice sa la ca]).alloc (.cells #[.int .i64 0, .int .i64 0, .string ⟨#[]⟩, .slice none 0 0] 28))
  have HBa := hid (HB00.out.alloc HB00.out.size (.cells #[.int .i64 x0, .int .i64 x1, .string x2, .slice sa la ca] 28))
  have HZa := hid (Row.new (w.alloc (.cells #[.int .i64 x0, .int .i64 x1, .string x2, .slice sa la ca] 28)) 28 #[.int .i64 x0, .int .i64 x1, .string x2, .slice sa la ca])
  simp only [World.size_alloc] at HZ0 HZa
  have q0 := eql_wb ⟨#[45]⟩ ⟨#[43]⟩ 0 0 (b := false) (by decide)
  have q1 := eql_wb ⟨#[45]⟩ ⟨#[45]⟩ 0 0 (b := true) (by decide)
  have hgd := fun op a b ys => guard_wb op a b #[.string ⟨#[45]⟩, .int .i64 0] ys
  go_enter Tryd.func151, Tryd.ntmps151
  go_wp2_with fail
  clear hgd q0 q1
  refine bodyPost_ret (v := .tuple #[.agg #[.int .i64 x0, .int .i64 x1, .string x2, .slice sa la ca], .bool true]) ?_ rfl ?_
  · exact results_cell_tmp Tryd.results151 _ _ (w.heap.size + 1) _ _ rfl HZa.out Tryd.underlying28 size_term
  · rw [show rightT a ⟨#[45]⟩ 0 = some a from rfl]
    exact fold_end (t := a) (a := sa) (c := ca) rfl (fun r hr => by obtain rfl : a = r := Option.some.inj hr; exact ⟨rfl, by rw [HP.out.l]; exact fun x hx hk => (((keep_old HA.out HHi.out HG.out HBa.out x hk).widen HLo.out (Nat.le_trans HHi.out (Nat.le_trans HG.out (Nat.le_trans HBa.out.size hx)))).mono (Nat.le_succ _))⟩) HBa.out (by rw [HP.out.l, HP.out.val])
set_option maxRecDepth 100000 in
set_option maxHeartbeats 8000000 in
theorem ahead_mul_1 (m lo f0 g0 G h : Nat) (a : Tm) (va : Value) (w : World) (hs : shape h a = true) (ha : KOwn w m f0 g0 va a.kids) (hlo : lo ≤ f0) (hhi : g0 ≤ G) (hG : G ≤ w.heap.size) (hT : Tabs w) :
    Calls Tryd.prog 151 #[tmVal a va, .string ⟨#[42]⟩, .int .i64 1] w (FoldPost (m + 1) lo G (rightT a ⟨#[42]⟩ 1) w) := by
  obtain ⟨sa, ca, rfl⟩ := ha.slice
  have HLw := hid (show lo ≤ w.heap.size by have := ha.le; omega)
  have HA := hid ha
  have HLo := hid hlo
  have HHi := hid hhi
  have HG := hid hG
  have HT := hid hT
  have HSh := hid hs
  clear ha hlo hhi hT hs hG
  obtain ⟨x0, x1, x2, la, hp⟩ := Pt.of a
  have HP := hid hp
  rw [hp.val]
  rw [hp.l] at HA ⊢
  clear hp
  have HB00 := hid ((Below.refl w.heap.size w).alloc (Nat.le_refl _) (.cells #[.int .i64 x0, .int .i64 x1, .string x2, .slice sa la ca] 28))
  have HB0 := hid (HB00.out.alloc HB00.out.size (.cells #[.int .i64 0, .int .i64 0, .string ⟨#[]⟩, .slice none 0 0] 28))
  have HZ0 := hid (Row.new (w.alloc (.cells #[.int .i64 x0, .int .i64 x1, .string x2, .slice sa la ca] 28)) 28 #[.int .i64 0, .int .i64 0, .string ⟨#[]⟩, .slice none 0 0])
  have HX0 := hid ((Row.new w 28 #[.int .i64 x0, .int .i64 x1, .string x2, .slice sa la ca]).alloc (.cells #[.int .i64 0, .int .i64 0, .string ⟨#[]⟩, .slice none 0 0] 28))
  have HBa := hid (HB00.out.alloc HB00.out.size (.cells #[.int .i64 x0, .int .i64 x1, .string x2, .slice sa la ca] 28))
  have HZa := hid (Row.new (w.alloc (.cells #[.int .i64 x0, .int .i64 x1, .string x2, .slice sa la ca] 28)) 28 #[.int .i64 x0, .int .i64 x1, .string x2, .slice sa la ca])
  simp only [World.size_alloc] at HZ0 HZa
  have q0 := eql_wb ⟨#[42]⟩ ⟨#[43]⟩ 1 0 (b := false) (by decide)
  have q1 := eql_wb ⟨#[42]⟩ ⟨#[45]⟩ 1 0 (b := false) (by decide)
  have q2 := eql_wb ⟨#[42]⟩ ⟨#[124]⟩ 1 0 (b := false) (by decide)
  have q3 := eql_wb ⟨#[42]⟩ ⟨#[94]⟩ 1 0 (b := false) (by decide)
  have q4 := eql_wb ⟨#[42]⟩ ⟨#[42]⟩ 1 1 (b := true) (by decide)
  have hgd := fun op a b ys => guard_wb op a b #[.string ⟨#[42]⟩, .int .i64 1] ys
  go_enter Tryd.func151, Tryd.ntmps151
  go_wp2_with fail
  clear hgd q0 q1 q2 q3 q4
  refine bodyPost_ret (v := .tuple #[.agg #[.int .i64 x0, .int .i64 x1, .string x2, .slice sa la ca], .bool true]) ?_ rfl ?_
  · exact results_cell_tmp Tryd.results151 _ _ (w.heap.size + 1) _ _ rfl HZa.out Tryd.underlying28 size_term
  · rw [show rightT a ⟨#[42]⟩ 1 = some a from rfl]
    exact fold_end (t := a) (a := sa) (c := ca) rfl (fun r hr => by obtain rfl : a = r := Option.some.inj hr; exact ⟨rfl, by rw [HP.out.l]; exact fun x hx hk => (((keep_old HA.out HHi.out HG.out HBa.out x hk).widen HLo.out (Nat.le_trans HHi.out (Nat.le_trans HG.out (Nat.le_trans HBa.out.size hx)))).mono (Nat.le_succ _))⟩) HBa.out (by rw [HP.out.l, HP.out.val])
set_option maxRecDepth 100000 in
set_option maxHeartbeats 8000000 in
theorem ahead_mul_n (m lo f0 g0 G h : Nat) (a : Tm) (va : Value) (n : Int) (hn : 0 ≤ n ∧ n ≤ 65535) (hn1 : ¬ n = 1) (hn0 : ¬ n = 0) (w : World) (hs : shape h a = true) (ha : KOwn w m f0 g0 va a.kids) (hlo : lo ≤ f0) (hhi : g0 ≤ G) (hG : G ≤ w.heap.size) (hT : Tabs w) :
    Calls Tryd.prog 151 #[tmVal a va, .string ⟨#[42]⟩, .int .i64 n] w (FoldPost (m + 1) lo G (rightT a ⟨#[42]⟩ n) w) := by
  have HN := hid hn
  clear hn
  obtain ⟨sa, ca, rfl⟩ := ha.slice
  have HLw := hid (show lo ≤ w.heap.size by have := ha.le; omega)
  have HA := hid ha
  have HLo := hid hlo
  have HHi := hid hhi
  have HG := hid hG
  have HT := hid hT
  have HSh := hid hs
  clear ha hlo hhi hT hs hG
  obtain ⟨x0, x1, x2, la, hp⟩ := Pt.of a
  have HP := hid hp
  rw [hp.val]
  rw [hp.l] at HA ⊢
  clear hp
  have HB00 := hid ((Below.refl w.heap.size w).alloc (Nat.le_refl _) (.cells #[.int .i64 x0, .int .i64 x1, .string x2, .slice sa la ca] 28))
  have HB0 := hid (HB00.out.alloc HB00.out.size (.cells #[.int .i64 0, .int .i64 0, .string ⟨#[]⟩, .slice none 0 0] 28))
  have HZ0 := hid (Row.new (w.alloc (.cells #[.int .i64 x0, .int .i64 x1, .string x2, .slice sa la ca] 28)) 28 #[.int .i64 0, .int .i64 0, .string ⟨#[]⟩, .slice none 0 0])
  have HX0 := hid ((Row.new w 28 #[.int .i64 x0, .int .i64 x1, .string x2, .slice sa la ca]).alloc (.cells #[.int .i64 0, .int .i64 0, .string ⟨#[]⟩, .slice none 0 0] 28))
  have HBa := hid (HB00.out.alloc HB00.out.size (.cells #[.int .i64 x0, .int .i64 x1, .string x2, .slice sa la ca] 28))
  have HZa := hid (Row.new (w.alloc (.cells #[.int .i64 x0, .int .i64 x1, .string x2, .slice sa la ca] 28)) 28 #[.int .i64 x0, .int .i64 x1, .string x2, .slice sa la ca])
  simp only [World.size_alloc] at HZ0 HZa
  have q0 := eql_wb ⟨#[42]⟩ ⟨#[43]⟩ n 0 (b := false) (by rw [Bool.and_eq_false_iff]; exact .inl (by decide))
  have q1 := eql_wb ⟨#[42]⟩ ⟨#[45]⟩ n 0 (b := false) (by rw [Bool.and_eq_false_iff]; exact .inl (by decide))
  have q2 := eql_wb ⟨#[42]⟩ ⟨#[124]⟩ n 0 (b := false) (by rw [Bool.and_eq_false_iff]; exact .inl (by decide))
  have q3 := eql_wb ⟨#[42]⟩ ⟨#[94]⟩ n 0 (b := false) (by rw [Bool.and_eq_false_iff]; exact .inl (by decide))
  have q4 := eql_wb ⟨#[42]⟩ ⟨#[42]⟩ n 1 (b := false) (by simp [hn1])
  have q5 := eql_wb ⟨#[42]⟩ ⟨#[38]⟩ n 65535 (b := false) (by rw [Bool.and_eq_false_iff]; exact .inl (by decide))
  have q6 := eql_wb ⟨#[42]⟩ ⟨#[42]⟩ n 0 (b := false) (by simp [hn0])
  have q7 := eql_wb ⟨#[42]⟩ ⟨#[38]⟩ n 0 (b := false) (by rw [Bool.and_eq_false_iff]; exact .inl (by decide))
  have q8 := eql_wb ⟨#[42]⟩ ⟨#[60, 60]⟩ n 0 (b := false) (by rw [Bool.and_eq_false_iff]; exact .inl (by decide))
  have q9 := eql_wb ⟨#[42]⟩ ⟨#[124]⟩ n 65535 (b := false) (by rw [Bool.and_eq_false_iff]; exact .inl (by decide))
  have q10 := eql_wb ⟨#[42]⟩ ⟨#[61, 61]⟩ n 0 (b := false) (by rw [Bool.and_eq_false_iff]; exact .inl (by decide))
  have q11 := eql_wb ⟨#[42]⟩ ⟨#[61, 61]⟩ n 1 (b := false) (by rw [Bool.and_eq_false_iff]; exact .inl (by decide))
  have hgd := fun op a b ys => guard_wb op a b #[.string ⟨#[42]⟩, .int .i64 n] ys
  have HRt := hid (show rightT a ⟨#[42]⟩ n = none from by simp [rightT, opIs, hn1, hn0])
  clear hn1 hn0
  go_enter Tryd.func151, Tryd.ntmps151
  go_wp2_with fail
  clear hgd q0 q1 q2 q3 q4 q5 q6 q7 q8 q9 q10 q11
  refine bodyPost_ret (v := .tuple #[.agg #[.int .i64 0, .int .i64 0, .string ⟨#[]⟩, .slice none 0 0], .bool false]) ?_ rfl ?_
  · exact results_cell_tmp Tryd.results151 _ _ (w.heap.size + 1) _ _ rfl HZ0.out Tryd.underlying28 size_term
  · rw [HRt.out]
    exact fold_end (t := tz) (a := none) (c := 0) rfl (fun r hr => by cases hr) HB0.out rfl
set_option maxRecDepth 100000 in
set_option maxHeartbeats 8000000 in
theorem ahead_and_65535 (m lo f0 g0 G h : Nat) (a : Tm) (va : Value) (w : World) (hs : shape h a = true) (ha : KOwn w m f0 g0 va a.kids) (hlo : lo ≤ f0) (hhi : g0 ≤ G) (hG : G ≤ w.heap.size) (hT : Tabs w) :
    Calls Tryd.prog 151 #[tmVal a va, .string ⟨#[38]⟩, .int .i64 65535] w (FoldPost (m + 1) lo G (rightT a ⟨#[38]⟩ 65535) w) := by
  obtain ⟨sa, ca, rfl⟩ := ha.slice
  have HLw := hid (show lo ≤ w.heap.size by have := ha.le; omega)
  have HA := hid ha
  have HLo := hid hlo
  have HHi := hid hhi
  have HG := hid hG
  have HT := hid hT
  have HSh := hid hs
  clear ha hlo hhi hT hs hG
  obtain ⟨x0, x1, x2, la, hp⟩ := Pt.of a
  have HP := hid hp
  rw [hp.val]
  rw [hp.l] at HA ⊢
  clear hp
  have HB00 := hid ((Below.refl w.heap.size w).alloc (Nat.le_refl _) (.cells #[.int .i64 x0, .int .i64 x1, .string x2, .slice sa la ca] 28))
  have HB0 := hid (HB00.out.alloc HB00.out.size (.cells #[.int .i64 0, .int .i64 0, .string ⟨#[]⟩, .slice none 0 0] 28))
  have HZ0 := hid (Row.new (w.alloc (.cells #[.int .i64 x0, .int .i64 x1, .string x2, .slice sa la ca] 28)) 28 #[.int .i64 0, .int .i64 0, .string ⟨#[]⟩, .slice none 0 0])
  have HX0 := hid ((Row.new w 28 #[.int .i64 x0, .int .i64 x1, .string x2, .slice sa la ca]).alloc (.cells #[.int .i64 0, .int .i64 0, .string ⟨#[]⟩, .slice none 0 0] 28))
  have HBa := hid (HB00.out.alloc HB00.out.size (.cells #[.int .i64 x0, .int .i64 x1, .string x2, .slice sa la ca] 28))
  have HZa := hid (Row.new (w.alloc (.cells #[.int .i64 x0, .int .i64 x1, .string x2, .slice sa la ca] 28)) 28 #[.int .i64 x0, .int .i64 x1, .string x2, .slice sa la ca])
  simp only [World.size_alloc] at HZ0 HZa
  have q0 := eql_wb ⟨#[38]⟩ ⟨#[43]⟩ 65535 0 (b := false) (by decide)
  have q1 := eql_wb ⟨#[38]⟩ ⟨#[45]⟩ 65535 0 (b := false) (by decide)
  have q2 := eql_wb ⟨#[38]⟩ ⟨#[124]⟩ 65535 0 (b := false) (by decide)
  have q3 := eql_wb ⟨#[38]⟩ ⟨#[94]⟩ 65535 0 (b := false) (by decide)
  have q4 := eql_wb ⟨#[38]⟩ ⟨#[42]⟩ 65535 1 (b := false) (by decide)
  have q5 := eql_wb ⟨#[38]⟩ ⟨#[38]⟩ 65535 65535 (b := true) (by decide)
  have hgd := fun op a b ys => guard_wb op a b #[.string ⟨#[38]⟩, .int .i64 65535] ys
  go_enter Tryd.func151, Tryd.ntmps151
  go_wp2_with fail
  clear hgd q0 q1 q2 q3 q4 q5
  refine bodyPost_ret (v := .tuple #[.agg #[.int .i64 x0, .int .i64 x1, .string x2, .slice sa la ca], .bool true]) ?_ rfl ?_
  · exact results_cell_tmp Tryd.results151 _ _ (w.heap.size + 1) _ _ rfl HZa.out Tryd.underlying28 size_term
  · rw [show rightT a ⟨#[38]⟩ 65535 = some a from rfl]
    exact fold_end (t := a) (a := sa) (c := ca) rfl (fun r hr => by obtain rfl : a = r := Option.some.inj hr; exact ⟨rfl, by rw [HP.out.l]; exact fun x hx hk => (((keep_old HA.out HHi.out HG.out HBa.out x hk).widen HLo.out (Nat.le_trans HHi.out (Nat.le_trans HG.out (Nat.le_trans HBa.out.size hx)))).mono (Nat.le_succ _))⟩) HBa.out (by rw [HP.out.l, HP.out.val])
set_option maxRecDepth 100000 in
set_option maxHeartbeats 8000000 in
theorem ahead_and_n (m lo f0 g0 G h : Nat) (a : Tm) (va : Value) (n : Int) (hn : 0 ≤ n ∧ n ≤ 65535) (hn65535 : ¬ n = 65535) (hn0 : ¬ n = 0) (w : World) (hs : shape h a = true) (ha : KOwn w m f0 g0 va a.kids) (hlo : lo ≤ f0) (hhi : g0 ≤ G) (hG : G ≤ w.heap.size) (hT : Tabs w) :
    Calls Tryd.prog 151 #[tmVal a va, .string ⟨#[38]⟩, .int .i64 n] w (FoldPost (m + 1) lo G (rightT a ⟨#[38]⟩ n) w) := by
  have HN := hid hn
  clear hn
  obtain ⟨sa, ca, rfl⟩ := ha.slice
  have HLw := hid (show lo ≤ w.heap.size by have := ha.le; omega)
  have HA := hid ha
  have HLo := hid hlo
  have HHi := hid hhi
  have HG := hid hG
  have HT := hid hT
  have HSh := hid hs
  clear ha hlo hhi hT hs hG
  obtain ⟨x0, x1, x2, la, hp⟩ := Pt.of a
  have HP := hid hp
  rw [hp.val]
  rw [hp.l] at HA ⊢
  clear hp
  have HB00 := hid ((Below.refl w.heap.size w).alloc (Nat.le_refl _) (.cells #[.int .i64 x0, .int .i64 x1, .string x2, .slice sa la ca] 28))
  have HB0 := hid (HB00.out.alloc HB00.out.size (.cells #[.int .i64 0, .int .i64 0, .string ⟨#[]⟩, .slice none 0 0] 28))
  have HZ0 := hid (Row.new (w.alloc (.cells #[.int .i64 x0, .int .i64 x1, .string x2, .slice sa la ca] 28)) 28 #[.int .i64 0, .int .i64 0, .string ⟨#[]⟩, .slice none 0 0])
  have HX0 := hid ((Row.new w 28 #[.int .i64 x0, .int .i64 x1, .string x2, .slice sa la ca]).alloc (.cells #[.int .i64 0, .int .i64 0, .string ⟨#[]⟩, .slice none 0 0] 28))
  have HBa := hid (HB00.out.alloc HB00.out.size (.cells #[.int .i64 x0, .int .i64 x1, .string x2, .slice sa la ca] 28))
  have HZa := hid (Row.new (w.alloc (.cells #[.int .i64 x0, .int .i64 x1, .string x2, .slice sa la ca] 28)) 28 #[.int .i64 x0, .int .i64 x1, .string x2, .slice sa la ca])
  simp only [World.size_alloc] at HZ0 HZa
  have q0 := eql_wb ⟨#[38]⟩ ⟨#[43]⟩ n 0 (b := false) (by rw [Bool.and_eq_false_iff]; exact .inl (by decide))
  have q1 := eql_wb ⟨#[38]⟩ ⟨#[45]⟩ n 0 (b := false) (by rw [Bool.and_eq_false_iff]; exact .inl (by decide))
  have q2 := eql_wb ⟨#[38]⟩ ⟨#[124]⟩ n 0 (b := false) (by rw [Bool.and_eq_false_iff]; exact .inl (by decide))
  have q3 := eql_wb ⟨#[38]⟩ ⟨#[94]⟩ n 0 (b := false) (by rw [Bool.and_eq_false_iff]; exact .inl (by decide))
  have q4 := eql_wb ⟨#[38]⟩ ⟨#[42]⟩ n 1 (b := false) (by rw [Bool.and_eq_false_iff]; exact .inl (by decide))
  have q5 := eql_wb ⟨#[38]⟩ ⟨#[38]⟩ n 65535 (b := false) (by simp [hn65535])
  have q6 := eql_wb ⟨#[38]⟩ ⟨#[42]⟩ n 0 (b := false) (by rw [Bool.and_eq_false_iff]; exact .inl (by decide))
  have q7 := eql_wb ⟨#[38]⟩ ⟨#[38]⟩ n 0 (b := false) (by simp [hn0])
  have q8 := eql_wb ⟨#[38]⟩ ⟨#[60, 60]⟩ n 0 (b := false) (by rw [Bool.and_eq_false_iff]; exact .inl (by decide))
  have q9 := eql_wb ⟨#[38]⟩ ⟨#[124]⟩ n 65535 (b := false) (by rw [Bool.and_eq_false_iff]; exact .inl (by decide))
  have q10 := eql_wb ⟨#[38]⟩ ⟨#[61, 61]⟩ n 0 (b := false) (by rw [Bool.and_eq_false_iff]; exact .inl (by decide))
  have q11 := eql_wb ⟨#[38]⟩ ⟨#[61, 61]⟩ n 1 (b := false) (by rw [Bool.and_eq_false_iff]; exact .inl (by decide))
  have hgd := fun op a b ys => guard_wb op a b #[.string ⟨#[38]⟩, .int .i64 n] ys
  have HRt := hid (show rightT a ⟨#[38]⟩ n = none from by simp [rightT, opIs, hn65535, hn0])
  clear hn65535 hn0
  go_enter Tryd.func151, Tryd.ntmps151
  go_wp2_with fail
  clear hgd q0 q1 q2 q3 q4 q5 q6 q7 q8 q9 q10 q11
  refine bodyPost_ret (v := .tuple #[.agg #[.int .i64 0, .int .i64 0, .string ⟨#[]⟩, .slice none 0 0], .bool false]) ?_ rfl ?_
  · exact results_cell_tmp Tryd.results151 _ _ (w.heap.size + 1) _ _ rfl HZ0.out Tryd.underlying28 size_term
  · rw [HRt.out]
    exact fold_end (t := tz) (a := none) (c := 0) rfl (fun r hr => by cases hr) HB0.out rfl
set_option maxRecDepth 100000 in
set_option maxHeartbeats 8000000 in
theorem ahead_or_0 (m lo f0 g0 G h : Nat) (a : Tm) (va : Value) (w : World) (hs : shape h a = true) (ha : KOwn w m f0 g0 va a.kids) (hlo : lo ≤ f0) (hhi : g0 ≤ G) (hG : G ≤ w.heap.size) (hT : Tabs w) :
    Calls Tryd.prog 151 #[tmVal a va, .string ⟨#[124]⟩, .int .i64 0] w (FoldPost (m + 1) lo G (rightT a ⟨#[124]⟩ 0) w) := by
  obtain ⟨sa, ca, rfl⟩ := ha.slice
  have HLw := hid (show lo ≤ w.heap.size by have := ha.le; omega)
  have HA := hid ha
  have HLo := hid hlo
  have HHi := hid hhi
  have HG := hid hG
  have HT := hid hT
  have HSh := hid hs
  clear ha hlo hhi hT hs hG
  obtain ⟨x0, x1, x2, la, hp⟩ := Pt.of a
  have HP := hid hp
  rw [hp.val]
  rw [hp.l] at HA ⊢
  clear hp
  have HB00 := hid ((Below.refl w.heap.size w).alloc (Nat.le_refl _) (.cells #[.int .i64 x0, .int .i64 x1, .string x2, .slice sa la ca] 28))
  have HB0 := hid (HB00.out.alloc HB00.out.size (.cells #[.int .i64 0, .int .i64 0, .string ⟨#[]⟩, .slice none 0 0] 28))
  have HZ0 := hid (Row.new (w.alloc (.cells #[.int .i64 x0, .int .i64 x1, .string x2, .slice sa la ca] 28)) 28 #[.int .i64 0, .int .i64 0, .string ⟨#[]⟩, .slice none 0 0])
  have HX0 := hid ((Row.new w 28 #[.int .i64 x0, .int .i64 x1, .string x2, .slice sa la ca]).alloc (.cells #[.int .i64 0, .int .i64 0, .string ⟨#[]⟩, .slice none 0 0] 28))
  have HBa := hid (HB00.out.alloc HB00.out.size (.cells #[.int .i64 x0, .int .i64 x1, .string x2, .slice sa la ca] 28))
  have HZa := hid (Row.new (w.alloc (.cells #[.int .i64 x0, .int .i64 x1, .string x2, .slice sa la ca] 28)) 28 #[.int .i64 x0, .int .i64 x1, .string x2, .slice sa la ca])
  simp only [World.size_alloc] at HZ0 HZa
  have q0 := eql_wb ⟨#[124]⟩ ⟨#[43]⟩ 0 0 (b := false) (by decide)
  have q1 := eql_wb ⟨#[124]⟩ ⟨#[45]⟩ 0 0 (b := false) (by decide)
  have q2 := eql_wb ⟨#[124]⟩ ⟨#[124]⟩ 0 0 (b := true) (by decide)
  have hgd := fun op a b ys => guard_wb op a b #[.string ⟨#[124]⟩, .int .i64 0] ys
  go_enter Tryd.func151, Tryd.ntmps151
  go_wp2_with fail
  clear hgd q0 q1 q2
  refine bodyPost_ret (v := .tuple #[.agg #[.int .i64 x0, .int .i64 x1, .string x2, .slice sa la ca], .bool true]) ?_ rfl ?_
  · exact results_cell_tmp Tryd.results151 _ _ (w.heap.size + 1) _ _ rfl HZa.out Tryd.underlying28 size_term
  · rw [show rightT a ⟨#[124]⟩ 0 = some a from rfl]
    exact fold_end (t := a) (a := sa) (c := ca) rfl (fun r hr => by obtain rfl : a = r := Option.some.inj hr; exact ⟨rfl, by rw [HP.out.l]; exact fun x hx hk => (((keep_old HA.out HHi.out HG.out HBa.out x hk).widen HLo.out (Nat.le_trans HHi.out (Nat.le_trans HG.out (Nat.le_trans HBa.out.size hx)))).mono (Nat.le_succ _))⟩) HBa.out (by rw [HP.out.l, HP.out.val])
set_option maxRecDepth 100000 in
set_option maxHeartbeats 8000000 in
theorem ahead_or_n (m lo f0 g0 G h : Nat) (a : Tm) (va : Value) (n : Int) (hn : 0 ≤ n ∧ n ≤ 65535) (hn0 : ¬ n = 0) (hn65535 : ¬ n = 65535) (w : World) (hs : shape h a = true) (ha : KOwn w m f0 g0 va a.kids) (hlo : lo ≤ f0) (hhi : g0 ≤ G) (hG : G ≤ w.heap.size) (hT : Tabs w) :
    Calls Tryd.prog 151 #[tmVal a va, .string ⟨#[124]⟩, .int .i64 n] w (FoldPost (m + 1) lo G (rightT a ⟨#[124]⟩ n) w) := by
  have HN := hid hn
  clear hn
  obtain ⟨sa, ca, rfl⟩ := ha.slice
  have HLw := hid (show lo ≤ w.heap.size by have := ha.le; omega)
  have HA := hid ha
  have HLo := hid hlo
  have HHi := hid hhi
  have HG := hid hG
  have HT := hid hT
  have HSh := hid hs
  clear ha hlo hhi hT hs hG
  obtain ⟨x0, x1, x2, la, hp⟩ := Pt.of a
  have HP := hid hp
  rw [hp.val]
  rw [hp.l] at HA ⊢
  clear hp
  have HB00 := hid ((Below.refl w.heap.size w).alloc (Nat.le_refl _) (.cells #[.int .i64 x0, .int .i64 x1, .string x2, .slice sa la ca] 28))
  have HB0 := hid (HB00.out.alloc HB00.out.size (.cells #[.int .i64 0, .int .i64 0, .string ⟨#[]⟩, .slice none 0 0] 28))
  have HZ0 := hid (Row.new (w.alloc (.cells #[.int .i64 x0, .int .i64 x1, .string x2, .slice sa la ca] 28)) 28 #[.int .i64 0, .int .i64 0, .string ⟨#[]⟩, .slice none 0 0])
  have HX0 := hid ((Row.new w 28 #[.int .i64 x0, .int .i64 x1, .string x2, .slice sa la ca]).alloc (.cells #[.int .i64 0, .int .i64 0, .string ⟨#[]⟩, .slice none 0 0] 28))
  have HBa := hid (HB00.out.alloc HB00.out.size (.cells #[.int .i64 x0, .int .i64 x1, .string x2, .slice sa la ca] 28))
  have HZa := hid (Row.new (w.alloc (.cells #[.int .i64 x0, .int .i64 x1, .string x2, .slice sa la ca] 28)) 28 #[.int .i64 x0, .int .i64 x1, .string x2, .slice sa la ca])
  simp only [World.size_alloc] at HZ0 HZa
  have q0 := eql_wb ⟨#[124]⟩ ⟨#[43]⟩ n 0 (b := false) (by rw [Bool.and_eq_false_iff]; exact .inl (by decide))
  have q1 := eql_wb ⟨#[124]⟩ ⟨#[45]⟩ n 0 (b := false) (by rw [Bool.and_eq_false_iff]; exact .inl (by decide))
  have q2 := eql_wb ⟨#[124]⟩ ⟨#[124]⟩ n 0 (b := false) (by simp [hn0])
  have q3 := eql_wb ⟨#[124]⟩ ⟨#[94]⟩ n 0 (b := false) (by rw [Bool.and_eq_false_iff]; exact .inl (by decide))
  have q4 := eql_wb ⟨#[124]⟩ ⟨#[42]⟩ n 1 (b := false) (by rw [Bool.and_eq_false_iff]; exact .inl (by decide))
  have q5 := eql_wb ⟨#[124]⟩ ⟨#[38]⟩ n 65535 (b := false) (by rw [Bool.and_eq_false_iff]; exact .inl (by decide))
  have q6 := eql_wb ⟨#[124]⟩ ⟨#[42]⟩ n 0 (b := false) (by rw [Bool.and_eq_false_iff]; exact .inl (by decide))
  have q7 := eql_wb ⟨#[124]⟩ ⟨#[38]⟩ n 0 (b := false) (by rw [Bool.and_eq_false_iff]; exact .inl (by decide))
  have q8 := eql_wb ⟨#[124]⟩ ⟨#[60, 60]⟩ n 0 (b := false) (by rw [Bool.and_eq_false_iff]; exact .inl (by decide))
  have q9 := eql_wb ⟨#[124]⟩ ⟨#[124]⟩ n 65535 (b := false) (by simp [hn65535])
  have q10 := eql_wb ⟨#[124]⟩ ⟨#[61, 61]⟩ n 0 (b := false) (by rw [Bool.and_eq_false_iff]; exact .inl (by decide))
  have q11 := eql_wb ⟨#[124]⟩ ⟨#[61, 61]⟩ n 1 (b := false) (by rw [Bool.and_eq_false_iff]; exact .inl (by decide))
  have hgd := fun op a b ys => guard_wb op a b #[.string ⟨#[124]⟩, .int .i64 n] ys
  have HRt := hid (show rightT a ⟨#[124]⟩ n = none from by simp [rightT, opIs, hn0, hn65535])
  clear hn0 hn65535
  go_enter Tryd.func151, Tryd.ntmps151
  go_wp2_with fail
  clear hgd q0 q1 q2 q3 q4 q5 q6 q7 q8 q9 q10 q11
  refine bodyPost_ret (v := .tuple #[.agg #[.int .i64 0, .int .i64 0, .string ⟨#[]⟩, .slice none 0 0], .bool false]) ?_ rfl ?_
  · exact results_cell_tmp Tryd.results151 _ _ (w.heap.size + 1) _ _ rfl HZ0.out Tryd.underlying28 size_term
  · rw [HRt.out]
    exact fold_end (t := tz) (a := none) (c := 0) rfl (fun r hr => by cases hr) HB0.out rfl
set_option maxRecDepth 100000 in
set_option maxHeartbeats 8000000 in
theorem ahead_xor_0 (m lo f0 g0 G h : Nat) (a : Tm) (va : Value) (w : World) (hs : shape h a = true) (ha : KOwn w m f0 g0 va a.kids) (hlo : lo ≤ f0) (hhi : g0 ≤ G) (hG : G ≤ w.heap.size) (hT : Tabs w) :
    Calls Tryd.prog 151 #[tmVal a va, .string ⟨#[94]⟩, .int .i64 0] w (FoldPost (m + 1) lo G (rightT a ⟨#[94]⟩ 0) w) := by
  obtain ⟨sa, ca, rfl⟩ := ha.slice
  have HLw := hid (show lo ≤ w.heap.size by have := ha.le; omega)
  have HA := hid ha
  have HLo := hid hlo
  have HHi := hid hhi
  have HG := hid hG
  have HT := hid hT
  have HSh := hid hs
  clear ha hlo hhi hT hs hG
  obtain ⟨x0, x1, x2, la, hp⟩ := Pt.of a
  have HP := hid hp
  rw [hp.val]
  rw [hp.l] at HA ⊢
  clear hp
  have HB00 := hid ((Below.refl w.heap.size w).alloc (Nat.le_refl _) (.cells #[.int .i64 x0, .int .i64 x1, .string x2, .slice sa la ca] 28))
  have HB0 := hid (HB00.out.alloc HB00.out.size (.cells #[.int .i64 0, .int .i64 0, .string ⟨#[]⟩, .slice none 0 0] 28))
  have HZ0 := hid (Row.new (w.alloc (.cells #[.int .i64 x0, .int .i64 x1, .string x2, .slice sa la ca] 28)) 28 #[.int .i64 0, .int .i64 0, .string ⟨#[]⟩, .slice none 0 0])
  have HX0 := hid ((Row.new w 28 #[.int .i64 x0, .int .i64 x1, .string x2, .slice sa la ca]).alloc (.cells #[.int .i64 0, .int .i64 0, .string ⟨#[]⟩, .slice none 0 0] 28))
  have HBa := hid (HB00.out.alloc HB00.out.size (.cells #[.int .i64 x0, .int .i64 x1, .string x2, .slice sa la ca] 28))
  have HZa := hid (Row.new (w.alloc (.cells #[.int .i64 x0, .int .i64 x1, .string x2, .slice sa la ca] 28)) 28 #[.int .i64 x0, .int .i64 x1, .string x2, .slice sa la ca])
  simp only [World.size_alloc] at HZ0 HZa
  have q0 := eql_wb ⟨#[94]⟩ ⟨#[43]⟩ 0 0 (b := false) (by decide)
  have q1 := eql_wb ⟨#[94]⟩ ⟨#[45]⟩ 0 0 (b := false) (by decide)
  have q2 := eql_wb ⟨#[94]⟩ ⟨#[124]⟩ 0 0 (b := false) (by decide)
  have q3 := eql_wb ⟨#[94]⟩ ⟨#[94]⟩ 0 0 (b := true) (by decide)
  have hgd := fun op a b ys => guard_wb op a b #[.string ⟨#[94]⟩, .int .i64 0] ys
  go_enter Tryd.func151, Tryd.ntmps151
  go_wp2_with fail
  clear hgd q0 q1 q2 q3
  refine bodyPost_ret (v := .tuple #[.agg #[.int .i64 x0, .int .i64 x1, .string x2, .slice sa la ca], .bool true]) ?_ rfl ?_
  · exact results_cell_tmp Tryd.results151 _ _ (w.heap.size + 1) _ _ rfl HZa.out Tryd.underlying28 size_term
  · rw [show rightT a ⟨#[94]⟩ 0 = some a from rfl]
    exact fold_end (t := a) (a := sa) (c := ca) rfl (fun r hr => by obtain rfl : a = r := Option.some.inj hr; exact ⟨rfl, by rw [HP.out.l]; exact fun x hx hk => (((keep_old HA.out HHi.out HG.out HBa.out x hk).widen HLo.out (Nat.le_trans HHi.out (Nat.le_trans HG.out (Nat.le_trans HBa.out.size hx)))).mono (Nat.le_succ _))⟩) HBa.out (by rw [HP.out.l, HP.out.val])
set_option maxRecDepth 100000 in
set_option maxHeartbeats 8000000 in
theorem ahead_xor_n (m lo f0 g0 G h : Nat) (a : Tm) (va : Value) (n : Int) (hn : 0 ≤ n ∧ n ≤ 65535) (hn0 : ¬ n = 0) (w : World) (hs : shape h a = true) (ha : KOwn w m f0 g0 va a.kids) (hlo : lo ≤ f0) (hhi : g0 ≤ G) (hG : G ≤ w.heap.size) (hT : Tabs w) :
    Calls Tryd.prog 151 #[tmVal a va, .string ⟨#[94]⟩, .int .i64 n] w (FoldPost (m + 1) lo G (rightT a ⟨#[94]⟩ n) w) := by
  have HN := hid hn
  clear hn
  obtain ⟨sa, ca, rfl⟩ := ha.slice
  have HLw := hid (show lo ≤ w.heap.size by have := ha.le; omega)
  have HA := hid ha
  have HLo := hid hlo
  have HHi := hid hhi
  have HG := hid hG
  have HT := hid hT
  have HSh := hid hs
  clear ha hlo hhi hT hs hG
  obtain ⟨x0, x1, x2, la, hp⟩ := Pt.of a
  have HP := hid hp
  rw [hp.val]
  rw [hp.l] at HA ⊢
  clear hp
  have HB00 := hid ((Below.refl w.heap.size w).alloc (Nat.le_refl _) (.cells #[.int .i64 x0, .int .i64 x1, .string x2, .slice sa la ca] 28))
  have HB0 := hid (HB00.out.alloc HB00.out.size (.cells #[.int .i64 0, .int .i64 0, .string ⟨#[]⟩, .slice none 0 0] 28))
  have HZ0 := hid (Row.new (w.alloc (.cells #[.int .i64 x0, .int .i64 x1, .string x2, .slice sa la ca] 28)) 28 #[.int .i64 0, .int .i64 0, .string ⟨#[]⟩, .slice none 0 0])
  have HX0 := hid ((Row.new w 28 #[.int .i64 x0, .int .i64 x1, .string x2, .slice sa la ca]).alloc (.cells #[.int .i64 0, .int .i64 0, .string ⟨#[]⟩, .slice none 0 0] 28))
  have HBa := hid (HB00.out.alloc HB00.out.size (.cells #[.int .i64 x0, .int .i64 x1, .string x2, .slice sa la ca] 28))
  have HZa := hid (Row.new (w.alloc (.cells #[.int .i64 x0, .int .i64 x1, .string x2, .slice sa la ca] 28)) 28 #[.int .i64 x0, .int .i64 x1, .string x2, .slice sa la ca])
  simp only [World.size_alloc] at HZ0 HZa
  have q0 := eql_wb ⟨#[94]⟩ ⟨#[43]⟩ n 0 (b := false) (by rw [Bool.and_eq_false_iff]; exact .inl (by decide))
  have q1 := eql_wb ⟨#[94]⟩ ⟨#[45]⟩ n 0 (b := false) (by rw [Bool.and_eq_false_iff]; exact .inl (by decide))
  have q2 := eql_wb ⟨#[94]⟩ ⟨#[124]⟩ n 0 (b := false) (by rw [Bool.and_eq_false_iff]; exact .inl (by decide))
  have q3 := eql_wb ⟨#[94]⟩ ⟨#[94]⟩ n 0 (b := false) (by simp [hn0])
  have q4 := eql_wb ⟨#[94]⟩ ⟨#[42]⟩ n 1 (b := false) (by rw [Bool.and_eq_false_iff]; exact .inl (by decide))
  have q5 := eql_wb ⟨#[94]⟩ ⟨#[38]⟩ n 65535 (b := false) (by rw [Bool.and_eq_false_iff]; exact .inl (by decide))
  have q6 := eql_wb ⟨#[94]⟩ ⟨#[42]⟩ n 0 (b := false) (by rw [Bool.and_eq_false_iff]; exact .inl (by decide))
  have q7 := eql_wb ⟨#[94]⟩ ⟨#[38]⟩ n 0 (b := false) (by rw [Bool.and_eq_false_iff]; exact .inl (by decide))
  have q8 := eql_wb ⟨#[94]⟩ ⟨#[60, 60]⟩ n 0 (b := false) (by rw [Bool.and_eq_false_iff]; exact .inl (by decide))
  have q9 := eql_wb ⟨#[94]⟩ ⟨#[124]⟩ n 65535 (b := false) (by rw [Bool.and_eq_false_iff]; exact .inl (by decide))
  have q10 := eql_wb ⟨#[94]⟩ ⟨#[61, 61]⟩ n 0 (b := false) (by rw [Bool.and_eq_false_iff]; exact .inl (by decide))
  have q11 := eql_wb ⟨#[94]⟩ ⟨#[61, 61]⟩ n 1 (b := false) (by rw [Bool.and_eq_false_iff]; exact .inl (by decide))
  have hgd := fun op a b ys => guard_wb op a b #[.string ⟨#[94]⟩, .int .i64 n] ys
  have HRt := hid (show rightT a ⟨#[94]⟩ n = none from by simp [rightT, opIs, hn0])
  clear hn0
  go_enter Tryd.func151, Tryd.ntmps151
  go_wp2_with fail
  clear hgd q0 q1 q2 q3 q4 q5 q6 q7 q8 q9 q10 q11
  refine bodyPost_ret (v := .tuple #[.agg #[.int .i64 0, .int .i64 0, .string ⟨#[]⟩, .slice none 0 0], .bool false]) ?_ rfl ?_
  · exact results_cell_tmp Tryd.results151 _ _ (w.heap.size + 1) _ _ rfl HZ0.out Tryd.underlying28 size_term
  · rw [HRt.out]
    exact fold_end (t := tz) (a := none) (c := 0) rfl (fun r hr => by cases hr) HB0.out rfl
set_option maxRecDepth 100000 in
set_option maxHeartbeats 8000000 in
theorem ahead_eq_n (m lo f0 g0 G h : Nat) (a : Tm) (va : Value) (n : Int) (hn : 0 ≤ n ∧ n ≤ 65535) (hn0 : ¬ n = 0) (hn1 : ¬ n = 1) (w : World) (hs : shape h a = true) (ha : KOwn w m f0 g0 va a.kids) (hlo : lo ≤ f0) (hhi : g0 ≤ G) (hG : G ≤ w.heap.size) (hT : Tabs w) :
    Calls Tryd.prog 151 #[tmVal a va, .string ⟨#[61, 61]⟩, .int .i64 n] w (FoldPost (m + 1) lo G (rightT a ⟨#[61, 61]⟩ n) w) := by
  have HN := hid hn
  clear hn
  obtain ⟨sa, ca, rfl⟩ := ha.slice
  have HLw := hid (show lo ≤ w.heap.size by have := ha.le; omega)
  have HA := hid ha
  have HLo := hid hlo
  have HHi := hid hhi
  have HG := hid hG
  have HT := hid hT
  have HSh := hid hs
  clear ha hlo hhi hT hs hG
  obtain ⟨x0, x1, x2, la, hp⟩ := Pt.of a
  have HP := hid hp
  rw [hp.val]
  rw [hp.l] at HA ⊢
  clear hp
  have HB00 := hid ((Below.refl w.heap.size w).alloc (Nat.le_refl _) (.cells #[.int .i64 x0, .int .i64 x1, .string x2, .slice sa la ca] 28))
  have HB0 := hid (HB00.out.alloc HB00.out.size (.cells #[.int .i64 0, .int .i64 0, .string ⟨#[]⟩, .slice none 0 0] 28))
  have HZ0 := hid (Row.new (w.alloc (.cells #[.int .i64 x0, .int .i64 x1, .string x2, .slice sa la ca] 28)) 28 #[.int .i64 0, .int .i64 0, .string ⟨#[]⟩, .slice none 0 0])
  have HX0 := hid ((Row.new w 28 #[.int .i64 x0, .int .i64 x1, .string x2, .slice sa la ca]).alloc (.cells #[.int .i64 0, .int .i64 0, .string ⟨#[]⟩, .slice none 0 0] 28))
  have HBa := hid (HB00.out.alloc HB00.out.size (.cells #[.int .i64 x0, .int .i64 x1, .string x2, .slice sa la ca] 28))
  have HZa := hid (Row.new (w.alloc (.cells #[.int .i64 x0, .int .i64 x1, .string x2, .slice sa la ca] 28)) 28 #[.int .i64 x0, .int .i64 x1, .string x2, .slice sa la ca])
  simp only [World.size_alloc] at HZ0 HZa
  have q0 := eql_wb ⟨#[61, 61]⟩ ⟨#[43]⟩ n 0 (b := false) (by rw [Bool.and_eq_false_iff]; exact .inl (by decide))
  have q1 := eql_wb ⟨#[61, 61]⟩ ⟨#[45]⟩ n 0 (b := false) (by rw [Bool.and_eq_false_iff]; exact .inl (by decide))
  have q2 := eql_wb ⟨#[61, 61]⟩ ⟨#[124]⟩ n 0 (b := false) (by rw [Bool.and_eq_false_iff]; exact .inl (by decide))
  have q3 := eql_wb ⟨#[61, 61]⟩ ⟨#[94]⟩ n 0 (b := false) (by rw [Bool.and_eq_false_iff]; exact .inl (by decide))
  have q4 := eql_wb ⟨#[61, 61]⟩ ⟨#[42]⟩ n 1 (b := false) (by rw [Bool.and_eq_false_iff]; exact .inl (by decide))
  have q5 := eql_wb ⟨#[61, 61]⟩ ⟨#[38]⟩ n 65535 (b := false) (by rw [Bool.and_eq_false_iff]; exact .inl (by decide))
  have q6 := eql_wb ⟨#[61, 61]⟩ ⟨#[42]⟩ n 0 (b := false) (by rw [Bool.and_eq_false_iff]; exact .inl (by decide))
  have q7 := eql_wb ⟨#[61, 61]⟩ ⟨#[38]⟩ n 0 (b := false) (by rw [Bool.and_eq_false_iff]; exact .inl (by decide))
  have q8 := eql_wb ⟨#[61, 61]⟩ ⟨#[60, 60]⟩ n 0 (b := false) (by rw [Bool.and_eq_false_iff]; exact .inl (by decide))
  have q9 := eql_wb ⟨#[61, 61]⟩ ⟨#[124]⟩ n 65535 (b := false) (by rw [Bool.and_eq_false_iff]; exact .inl (by decide))
  have q10 := eql_wb ⟨#[61, 61]⟩ ⟨#[61, 61]⟩ n 0 (b := false) (by simp [hn0])
  have q11 := eql_wb ⟨#[61, 61]⟩ ⟨#[61, 61]⟩ n 1 (b := false) (by simp [hn1])
  have hgd := fun op a b ys => guard_wb op a b #[.string ⟨#[61, 61]⟩, .int .i64 n] ys
  have HRt := hid (show rightT a ⟨#[61, 61]⟩ n = none from by simp [rightT, opIs, hn0, hn1])
  clear hn0 hn1
  go_enter Tryd.func151, Tryd.ntmps151
  go_wp2_with fail
  clear hgd q0 q1 q2 q3 q4 q5 q6 q7 q8 q9 q10 q11
  refine bodyPost_ret (v := .tuple #[.agg #[.int .i64 0, .int .i64 0, .string ⟨#[]⟩, .slice none 0 0], .bool false]) ?_ rfl ?_
  · exact results_cell_tmp Tryd.results151 _ _ (w.heap.size + 1) _ _ rfl HZ0.out Tryd.underlying28 size_term
  · rw [HRt.out]
    exact fold_end (t := tz) (a := none) (c := 0) rfl (fun r hr => by cases hr) HB0.out rfl
set_option maxRecDepth 100000 in
set_option maxHeartbeats 8000000 in
theorem ahead_lt_n (m lo f0 g0 G h : Nat) (a : Tm) (va : Value) (n : Int) (hn : 0 ≤ n ∧ n ≤ 65535) (w : World) (hs : shape h a = true) (ha : KOwn w m f0 g0 va a.kids) (hlo : lo ≤ f0) (hhi : g0 ≤ G) (hG : G ≤ w.heap.size) (hT : Tabs w) :
    Calls Tryd.prog 151 #[tmVal a va, .string ⟨#[60]⟩, .int .i64 n] w (FoldPost (m + 1) lo G (rightT a ⟨#[60]⟩ n) w) := by
  have HN := hid hn
  clear hn
  obtain ⟨sa, ca, rfl⟩ := ha.slice
  have HLw := hid (show lo ≤ w.heap.size by have := ha.le; omega)
  have HA := hid ha
  have HLo := hid hlo
  have HHi := hid hhi
  have HG := hid hG
  have HT := hid hT
  have HSh := hid hs
  clear ha hlo hhi hT hs hG
  obtain ⟨x0, x1, x2, la, hp⟩ := Pt.of a
  have HP := hid hp
  rw [hp.val]
  rw [hp.l] at HA ⊢
  clear hp
  have HB00 := hid ((Below.refl w.heap.size w).alloc (Nat.le_refl _) (.cells #[.int .i64 x0, .int .i64 x1, .string x2, .slice sa la ca] 28))
  have HB0 := hid (HB00.out.alloc HB00.out.size (.cells #[.int .i64 0, .int .i64 0, .string ⟨#[]⟩, .slice none 0 0] 28))
  have HZ0 := hid (Row.new (w.alloc (.cells #[.int .i64 x0, .int .i64 x1, .string x2, .slice sa la ca] 28)) 28 #[.int .i64 0, .int .i64 0, .string ⟨#[]⟩, .slice none 0 0])
  have HX0 := hid ((Row.new w 28 #[.int .i64 x0, .int .i64 x1, .string x2, .slice sa la ca]).alloc (.cells #[.int .i64 0, .int .i64 0, .string ⟨#[]⟩, .slice none 0 0] 28))
  have HBa := hid (HB00.out.alloc HB00.out.size (.cells #[.int .i64 x0, .int .i64 x1, .string x2, .slice sa la ca] 28))
  have HZa := hid (Row.new (w.alloc (.cells #[.int .i64 x0, .int .i64 x1, .string x2, .slice sa la ca] 28)) 28 #[.int .i64 x0, .int .i64 x1, .string x2, .slice sa la ca])
  simp only [World.size_alloc] at HZ0 HZa
  have q0 := eql_wb ⟨#[60]⟩ ⟨#[43]⟩ n 0 (b := false) (by rw [Bool.and_eq_false_iff]; exact .inl (by decide))
  have q1 := eql_wb ⟨#[60]⟩ ⟨#[45]⟩ n 0 (b := false) (by rw [Bool.and_eq_false_iff]; exact .inl (by decide))
  have q2 := eql_wb ⟨#[60]⟩ ⟨#[124]⟩ n 0 (b := false) (by rw [Bool.and_eq_false_iff]; exact .inl (by decide))
  have q3 := eql_wb ⟨#[60]⟩ ⟨#[94]⟩ n 0 (b := false) (by rw [Bool.and_eq_false_iff]; exact .inl (by decide))
  have q4 := eql_wb ⟨#[60]⟩ ⟨#[42]⟩ n 1 (b := false) (by rw [Bool.and_eq_false_iff]; exact .inl (by decide))
  have q5 := eql_wb ⟨#[60]⟩ ⟨#[38]⟩ n 65535 (b := false) (by rw [Bool.and_eq_false_iff]; exact .inl (by decide))
  have q6 := eql_wb ⟨#[60]⟩ ⟨#[42]⟩ n 0 (b := false) (by rw [Bool.and_eq_false_iff]; exact .inl (by decide))
  have q7 := eql_wb ⟨#[60]⟩ ⟨#[38]⟩ n 0 (b := false) (by rw [Bool.and_eq_false_iff]; exact .inl (by decide))
  have q8 := eql_wb ⟨#[60]⟩ ⟨#[60, 60]⟩ n 0 (b := false) (by rw [Bool.and_eq_false_iff]; exact .inl (by decide))
  have q9 := eql_wb ⟨#[60]⟩ ⟨#[124]⟩ n 65535 (b := false) (by rw [Bool.and_eq_false_iff]; exact .inl (by decide))
  have q10 := eql_wb ⟨#[60]⟩ ⟨#[61, 61]⟩ n 0 (b := false) (by rw [Bool.and_eq_false_iff]; exact .inl (by decide))
  have q11 := eql_wb ⟨#[60]⟩ ⟨#[61, 61]⟩ n 1 (b := false) (by rw [Bool.and_eq_false_iff]; exact .inl (by decide))
  have hgd := fun op a b ys => guard_wb op a b #[.string ⟨#[60]⟩, .int .i64 n] ys
  have HRt := hid (show rightT a ⟨#[60]⟩ n = none from by simp [rightT, opIs])
  go_enter Tryd.func151, Tryd.ntmps151
  go_wp2_with fail
  clear hgd q0 q1 q2 q3 q4 q5 q6 q7 q8 q9 q10 q11
  refine bodyPost_ret (v := .tuple #[.agg #[.int .i64 0, .int .i64 0, .string ⟨#[]⟩, .slice none 0 0], .bool false]) ?_ rfl ?_
  · exact results_cell_tmp Tryd.results151 _ _ (w.heap.size + 1) _ _ rfl HZ0.out Tryd.underlying28 size_term
  · rw [HRt.out]
    exact fold_end (t := tz) (a := none) (c := 0) rfl (fun r hr => by cases hr) HB0.out rfl
set_option maxRecDepth 100000 in
set_option maxHeartbeats 8000000 in
theorem ahead_lo_n (m lo f0 g0 G h : Nat) (a : Tm) (va : Value) (n : Int) (hn : 0 ≤ n ∧ n ≤ 65535) (hn0 : ¬ n = 0) (w : World) (hs : shape h a = true) (ha : KOwn w m f0 g0 va a.kids) (hlo : lo ≤ f0) (hhi : g0 ≤ G) (hG : G ≤ w.heap.size) (hT : Tabs w) :
    Calls Tryd.prog 151 #[tmVal a va, .string ⟨#[60, 60]⟩, .int .i64 n] w (FoldPost (m + 1) lo G (rightT a ⟨#[60, 60]⟩ n) w) := by
  have HN := hid hn
  clear hn
  obtain ⟨sa, ca, rfl⟩ := ha.slice
  have HLw := hid (show lo ≤ w.heap.size by have := ha.le; omega)
  have HA := hid ha
  have HLo := hid hlo
  have HHi := hid hhi
  have HG := hid hG
  have HT := hid hT
  have HSh := hid hs
  clear ha hlo hhi hT hs hG
  obtain ⟨x0, x1, x2, la, hp⟩ := Pt.of a
  have HP := hid hp
  rw [hp.val]
  rw [hp.l] at HA ⊢
  clear hp
  have HB00 := hid ((Below.refl w.heap.size w).alloc (Nat.le_refl _) (.cells #[.int .i64 x0, .int .i64 x1, .string x2, .slice sa la ca] 28))
  have HB0 := hid (HB00.out.alloc HB00.out.size (.cells #[.int .i64 0, .int .i64 0, .string ⟨#[]⟩, .slice none 0 0] 28))
  have HZ0 := hid (Row.new (w.alloc (.cells #[.int .i64 x0, .int .i64 x1, .string x2, .slice sa la ca] 28)) 28 #[.int .i64 0, .int .i64 0, .string ⟨#[]⟩, .slice none 0 0])
  have HX0 := hid ((Row.new w 28 #[.int .i64 x0, .int .i64 x1, .string x2, .slice sa la ca]).alloc (.cells #[.int .i64 0, .int .i64 0, .string ⟨#[]⟩, .slice none 0 0] 28))
  have HBa := hid (HB00.out.alloc HB00.out.size (.cells #[.int .i64 x0, .int .i64 x1, .string x2, .slice sa la ca] 28))
  have HZa := hid (Row.new (w.alloc (.cells #[.int .i64 x0, .int .i64 x1, .string x2, .slice sa la ca] 28)) 28 #[.int .i64 x0, .int .i64 x1, .string x2, .slice sa la ca])
  simp only [World.size_alloc] at HZ0 HZa
  have q0 := eql_wb ⟨#[60, 60]⟩ ⟨#[43]⟩ n 0 (b := false) (by rw [Bool.and_eq_false_iff]; exact .inl (by decide))
  have q1 := eql_wb ⟨#[60, 60]⟩ ⟨#[45]⟩ n 0 (b := false) (by rw [Bool.and_eq_false_iff]; exact .inl (by decide))
  have q2 := eql_wb ⟨#[60, 60]⟩ ⟨#[124]⟩ n 0 (b := false) (by rw [Bool.and_eq_false_iff]; exact .inl (by decide))
  have q3 := eql_wb ⟨#[60, 60]⟩ ⟨#[94]⟩ n 0 (b := false) (by rw [Bool.and_eq_false_iff]; exact .inl (by decide))
  have q4 := eql_wb ⟨#[60, 60]⟩ ⟨#[42]⟩ n 1 (b := false) (by rw [Bool.and_eq_false_iff]; exact .inl (by decide))
  have q5 := eql_wb ⟨#[60, 60]⟩ ⟨#[38]⟩ n 65535 (b := false) (by rw [Bool.and_eq_false_iff]; exact .inl (by decide))
  have q6 := eql_wb ⟨#[60, 60]⟩ ⟨#[42]⟩ n 0 (b := false) (by rw [Bool.and_eq_false_iff]; exact .inl (by decide))
  have q7 := eql_wb ⟨#[60, 60]⟩ ⟨#[38]⟩ n 0 (b := false) (by rw [Bool.and_eq_false_iff]; exact .inl (by decide))
  have q8 := eql_wb ⟨#[60, 60]⟩ ⟨#[60, 60]⟩ n 0 (b := false) (by simp [hn0])
  have q9 := eql_wb ⟨#[60, 60]⟩ ⟨#[124]⟩ n 65535 (b := false) (by rw [Bool.and_eq_false_iff]; exact .inl (by decide))
  have q10 := eql_wb ⟨#[60, 60]⟩ ⟨#[61, 61]⟩ n 0 (b := false) (by rw [Bool.and_eq_false_iff]; exact .inl (by decide))
  have q11 := eql_wb ⟨#[60, 60]⟩ ⟨#[61, 61]⟩ n 1 (b := false) (by rw [Bool.and_eq_false_iff]; exact .inl (by decide))
  have hgd := fun op a b ys => guard_wb op a b #[.string ⟨#[60, 60]⟩, .int .i64 n] ys
  have HRt := hid (show rightT a ⟨#[60, 60]⟩ n = none from by simp [rightT, opIs, hn0])
  clear hn0
  go_enter Tryd.func151, Tryd.ntmps151
  go_wp2_with fail
  clear hgd q0 q1 q2 q3 q4 q5 q6 q7 q8 q9 q10 q11
  refine bodyPost_ret (v := .tuple #[.agg #[.int .i64 0, .int .i64 0, .string ⟨#[]⟩, .slice none 0 0], .bool false]) ?_ rfl ?_
  · exact results_cell_tmp Tryd.results151 _ _ (w.heap.size + 1) _ _ rfl HZ0.out Tryd.underlying28 size_term
  · rw [HRt.out]
    exact fold_end (t := tz) (a := none) (c := 0) rfl (fun r hr => by cases hr) HB0.out rfl
end Go.Proofs.YtffibmlgdacafaaDoor.Um
