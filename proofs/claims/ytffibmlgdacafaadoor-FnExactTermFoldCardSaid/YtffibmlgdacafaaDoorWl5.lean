/- Simpler terms: a term with an operator and a word behind it, by the model: where nothing changes, on. -/
import Derived.Test.YtffibmlgdacafaaDoorWl1
set_option linter.unusedSimpArgs false
set_option linter.unusedVariables false
namespace Go.Proofs.YtffibmlgdacafaaDoor.Um
open Go.RowKit Pl Ft Mm In C2 Im

set_option maxRecDepth 100000 in
set_option maxHeartbeats 10000000 in
theorem right_xor_0 (m h : Nat) (P : Nat → Prop) (a : Tm) (va : Value) (w : World) (hs : shape h a = true) (ha : KP P w m va a.kids) :
    Calls Tryd.prog 145 #[.string ⟨#[94]⟩, tmVal a va, .int .i64 0] w (FoldR (m + 1) P (rightT a ⟨#[94]⟩ 0) w) := by
  obtain ⟨sa, ca, rfl⟩ := ha.slice
  have HA := hid ha
  have HSh := hid hs
  clear ha hs
  obtain ⟨x0, x1, x2, la, hp⟩ := Pt.of a
  have HP := hid hp
  rw [hp.val]
  rw [hp.l] at HA ⊢
  clear hp
  have HB00 := hid ((Below.refl w.heap.size w).alloc (Nat.le_refl _) (.cells #[.int .i64 x0, .int .i64 x1, .string x2, .slice sa la ca] 28))
  have HB0 := hid (HB00.out.alloc HB00.out.size (.cells #[.int .i64 0, .int .i64 0, .string ⟨#[]⟩, .slice none 0 0] 28))
  have HZ0 := hid (Row.new (w.alloc (.cells #[.int .i64 x0, .int .i64 x1, .string x2, .slice sa la ca] 28)) 28 #[.int .i64 0, .int .i64 0, .string ⟨#[]⟩, .slice none 0 0])
  have HX0 := hid ((Row.new w 28 #[.int .i64 x0, .int .i64 x1, .string x2, .slice sa la ca]).alloc (.cells #[.int .i64 0, .int .i64 0, .string ⟨#[]⟩, .slice none 0 0] 28))
  have HBa := hid (HB00.out.alloc HB00.out.size (.cells #[.int .i64 x0, .int .i64 x1, .string x2, .slice sa la ca] 28))
  have HZa := hid (Row.new (w.alloc (.cells #[.int .i64 x0, .int .i64 x1, .string x2, .slice sa la ca] 28)) 28 #[.int .i64 x0, .int .i64 x1, .string x2, .slice sa la ca])
  simp only [World.size_alloc] at HZ0 HZa
  go_enter Tryd.func145, Tryd.ntmps145
  go_wp2_with fail
  refine bodyPost_ret (v := .tuple #[.agg #[.int .i64 x0, .int .i64 x1, .string x2, .slice sa la ca], .bool true]) ?_ rfl ?_
  · exact results_cell_tmp Tryd.results145 _ _ (w.heap.size + 1) _ _ rfl HZa.out Tryd.underlying28 size_term
  · rw [show rightT a ⟨#[94]⟩ 0 = some a from rfl]
    exact foldr_end (t := a) (a := sa) (c := ca) rfl (fun r hr => by obtain rfl : a = r := Option.some.inj hr; exact ⟨rfl, by rw [HP.out.l]; exact (HA.out.old HBa.out).mono (Nat.le_succ _)⟩) HBa.out (by rw [HP.out.l, HP.out.val])
set_option maxRecDepth 100000 in
set_option maxHeartbeats 10000000 in
theorem right_xor_1 (m h : Nat) (P : Nat → Prop) (a : Tm) (va : Value) (w : World) (hs : shape h a = true) (ha : KP P w m va a.kids) :
    Calls Tryd.prog 145 #[.string ⟨#[94]⟩, tmVal a va, .int .i64 1] w (FoldR (m + 1) P (rightT a ⟨#[94]⟩ 1) w) := by
  obtain ⟨sa, ca, rfl⟩ := ha.slice
  have HA := hid ha
  have HSh := hid hs
  clear ha hs
  obtain ⟨x0, x1, x2, la, hp⟩ := Pt.of a
  have HP := hid hp
  rw [hp.val]
  rw [hp.l] at HA ⊢
  clear hp
  have HB00 := hid ((Below.refl w.heap.size w).alloc (Nat.le_refl _) (.cells #[.int .i64 x0, .int .i64 x1, .string x2, .slice sa la ca] 28))
  have HB0 := hid (HB00.out.alloc HB00.out.size (.cells #[.int .i64 0, .int .i64 0, .string ⟨#[]⟩, .slice none 0 0] 28))
  have HZ0 := hid (Row.new (w.alloc (.cells #[.int .i64 x0, .int .i64 x1, .string x2, .slice sa la ca] 28)) 28 #[.int .i64 0, .int .i64 0, .string ⟨#[]⟩, .slice none 0 0])
  have HX0 := hid ((Row.new w 28 #[.int .i64 x0, .int .i64 x1, .string x2, .slice sa la ca]).alloc (.cells #[.int .i64 0, .int .i64 0, .string ⟨#[]⟩, .slice none 0 0] 28))
  have HBa := hid (HB00.out.alloc HB00.out.size (.cells #[.int .i64 x0, .int .i64 x1, .string x2, .slice sa la ca] 28))
  have HZa := hid (Row.new (w.alloc (.cells #[.int .i64 x0, .int .i64 x1, .string x2, .slice sa la ca] 28)) 28 #[.int .i64 x0, .int .i64 x1, .string x2, .slice sa la ca])
  simp only [World.size_alloc] at HZ0 HZa
  have HRt := hid (show rightT a ⟨#[94]⟩ 1 = none by simp [rightT, opIs])
  go_enter Tryd.func145, Tryd.ntmps145
  go_wp2_with fail
  refine bodyPost_ret (v := .tuple #[.agg #[.int .i64 0, .int .i64 0, .string ⟨#[]⟩, .slice none 0 0], .bool false]) ?_ rfl ?_
  · exact results_cell_tmp Tryd.results145 _ _ (w.heap.size + 1) _ _ rfl HZ0.out Tryd.underlying28 size_term
  · rw [HRt.out]
    exact foldr_end (t := tz) (a := none) (c := 0) rfl (fun r hr => by cases hr) HB0.out rfl
set_option maxRecDepth 100000 in
set_option maxHeartbeats 10000000 in
theorem right_xor_65535 (m h : Nat) (P : Nat → Prop) (a : Tm) (va : Value) (w : World) (hs : shape h a = true) (ha : KP P w m va a.kids) :
    Calls Tryd.prog 145 #[.string ⟨#[94]⟩, tmVal a va, .int .i64 65535] w (FoldR (m + 1) P (rightT a ⟨#[94]⟩ 65535) w) := by
  obtain ⟨sa, ca, rfl⟩ := ha.slice
  have HA := hid ha
  have HSh := hid hs
  clear ha hs
  obtain ⟨x0, x1, x2, la, hp⟩ := Pt.of a
  have HP := hid hp
  rw [hp.val]
  rw [hp.l] at HA ⊢
  clear hp
  have HB00 := hid ((Below.refl w.heap.size w).alloc (Nat.le_refl _) (.cells #[.int .i64 x0, .int .i64 x1, .string x2, .slice sa la ca] 28))
  have HB0 := hid (HB00.out.alloc HB00.out.size (.cells #[.int .i64 0, .int .i64 0, .string ⟨#[]⟩, .slice none 0 0] 28))
  have HZ0 := hid (Row.new (w.alloc (.cells #[.int .i64 x0, .int .i64 x1, .string x2, .slice sa la ca] 28)) 28 #[.int .i64 0, .int .i64 0, .string ⟨#[]⟩, .slice none 0 0])
  have HX0 := hid ((Row.new w 28 #[.int .i64 x0, .int .i64 x1, .string x2, .slice sa la ca]).alloc (.cells #[.int .i64 0, .int .i64 0, .string ⟨#[]⟩, .slice none 0 0] 28))
  have HBa := hid (HB00.out.alloc HB00.out.size (.cells #[.int .i64 x0, .int .i64 x1, .string x2, .slice sa la ca] 28))
  have HZa := hid (Row.new (w.alloc (.cells #[.int .i64 x0, .int .i64 x1, .string x2, .slice sa la ca] 28)) 28 #[.int .i64 x0, .int .i64 x1, .string x2, .slice sa la ca])
  simp only [World.size_alloc] at HZ0 HZa
  have HRt := hid (show rightT a ⟨#[94]⟩ 65535 = none by simp [rightT, opIs])
  go_enter Tryd.func145, Tryd.ntmps145
  go_wp2_with fail
  refine bodyPost_ret (v := .tuple #[.agg #[.int .i64 0, .int .i64 0, .string ⟨#[]⟩, .slice none 0 0], .bool false]) ?_ rfl ?_
  · exact results_cell_tmp Tryd.results145 _ _ (w.heap.size + 1) _ _ rfl HZ0.out Tryd.underlying28 size_term
  · rw [HRt.out]
    exact foldr_end (t := tz) (a := none) (c := 0) rfl (fun r hr => by cases hr) HB0.out rfl
set_option maxRecDepth 100000 in
set_option maxHeartbeats 10000000 in
theorem right_xor_n (m h : Nat) (P : Nat → Prop) (a : Tm) (va : Value) (n : Int) (hn : 0 ≤ n ∧ n ≤ 65535) (hn0 : ¬ n = 0) (hn1 : ¬ n = 1) (hn2 : ¬ n = 65535) (w : World) (hs : shape h a = true) (ha : KP P w m va a.kids) :
    Calls Tryd.prog 145 #[.string ⟨#[94]⟩, tmVal a va, .int .i64 n] w (FoldR (m + 1) P (rightT a ⟨#[94]⟩ n) w) := by
  have HN := hid hn
  clear hn
  obtain ⟨sa, ca, rfl⟩ := ha.slice
  have HA := hid ha
  have HSh := hid hs
  clear ha hs
  obtain ⟨x0, x1, x2, la, hp⟩ := Pt.of a
  have HP := hid hp
  rw [hp.val]
  rw [hp.l] at HA ⊢
  clear hp
  have HB00 := hid ((Below.refl w.heap.size w).alloc (Nat.le_refl _) (.cells #[.int .i64 x0, .int .i64 x1, .string x2, .slice sa la ca] 28))
  have HB0 := hid (HB00.out.alloc HB00.out.size (.cells #[.int .i64 0, .int .i64 0, .string ⟨#[]⟩, .slice none 0 0] 28))
  have HZ0 := hid (Row.new (w.alloc (.cells #[.int .i64 x0, .int .i64 x1, .string x2, .slice sa la ca] 28)) 28 #[.int .i64 0, .int .i64 0, .string ⟨#[]⟩, .slice none 0 0])
  have HX0 := hid ((Row.new w 28 #[.int .i64 x0, .int .i64 x1, .string x2, .slice sa la ca]).alloc (.cells #[.int .i64 0, .int .i64 0, .string ⟨#[]⟩, .slice none 0 0] 28))
  have HBa := hid (HB00.out.alloc HB00.out.size (.cells #[.int .i64 x0, .int .i64 x1, .string x2, .slice sa la ca] 28))
  have HZa := hid (Row.new (w.alloc (.cells #[.int .i64 x0, .int .i64 x1, .string x2, .slice sa la ca] 28)) 28 #[.int .i64 x0, .int .i64 x1, .string x2, .slice sa la ca])
  simp only [World.size_alloc] at HZ0 HZa
  have HRt := hid (show rightT a ⟨#[94]⟩ n = none by simp [rightT, opIs, hn0, hn1, hn2])
  have hnb0 : (n == 0) = false := by simpa using hn0
  have hnb1 : (n == 1) = false := by simpa using hn1
  have hnb2 : (n == 65535) = false := by simpa using hn2
  clear hn0 hn1 hn2
  go_enter Tryd.func145, Tryd.ntmps145
  go_wp2_with fail
  refine bodyPost_ret (v := .tuple #[.agg #[.int .i64 0, .int .i64 0, .string ⟨#[]⟩, .slice none 0 0], .bool false]) ?_ rfl ?_
  · exact results_cell_tmp Tryd.results145 _ _ (w.heap.size + 1) _ _ rfl HZ0.out Tryd.underlying28 size_term
  · rw [HRt.out]
    exact foldr_end (t := tz) (a := none) (c := 0) rfl (fun r hr => by cases hr) HB0.out rfl
set_option maxRecDepth 100000 in
set_option maxHeartbeats 10000000 in
theorem right_eq_65535 (m h : Nat) (P : Nat → Prop) (a : Tm) (va : Value) (w : World) (hs : shape h a = true) (ha : KP P w m va a.kids) :
    Calls Tryd.prog 145 #[.string ⟨#[61, 61]⟩, tmVal a va, .int .i64 65535] w (FoldR (m + 1) P (rightT a ⟨#[61, 61]⟩ 65535) w) := by
  obtain ⟨sa, ca, rfl⟩ := ha.slice
  have HA := hid ha
  have HSh := hid hs
  clear ha hs
  obtain ⟨x0, x1, x2, la, hp⟩ := Pt.of a
  have HP := hid hp
  rw [hp.val]
  rw [hp.l] at HA ⊢
  clear hp
  have HB00 := hid ((Below.refl w.heap.size w).alloc (Nat.le_refl _) (.cells #[.int .i64 x0, .int .i64 x1, .string x2, .slice sa la ca] 28))
  have HB0 := hid (HB00.out.alloc HB00.out.size (.cells #[.int .i64 0, .int .i64 0, .string ⟨#[]⟩, .slice none 0 0] 28))
  have HZ0 := hid (Row.new (w.alloc (.cells #[.int .i64 x0, .int .i64 x1, .string x2, .slice sa la ca] 28)) 28 #[.int .i64 0, .int .i64 0, .string ⟨#[]⟩, .slice none 0 0])
  have HX0 := hid ((Row.new w 28 #[.int .i64 x0, .int .i64 x1, .string x2, .slice sa la ca]).alloc (.cells #[.int .i64 0, .int .i64 0, .string ⟨#[]⟩, .slice none 0 0] 28))
  have HBa := hid (HB00.out.alloc HB00.out.size (.cells #[.int .i64 x0, .int .i64 x1, .string x2, .slice sa la ca] 28))
  have HZa := hid (Row.new (w.alloc (.cells #[.int .i64 x0, .int .i64 x1, .string x2, .slice sa la ca] 28)) 28 #[.int .i64 x0, .int .i64 x1, .string x2, .slice sa la ca])
  simp only [World.size_alloc] at HZ0 HZa
  have HRt := hid (show rightT a ⟨#[61, 61]⟩ 65535 = none by simp [rightT, opIs])
  go_enter Tryd.func145, Tryd.ntmps145
  go_wp2_with fail
  refine bodyPost_ret (v := .tuple #[.agg #[.int .i64 0, .int .i64 0, .string ⟨#[]⟩, .slice none 0 0], .bool false]) ?_ rfl ?_
  · exact results_cell_tmp Tryd.results145 _ _ (w.heap.size + 1) _ _ rfl HZ0.out Tryd.underlying28 size_term
  · rw [HRt.out]
    exact foldr_end (t := tz) (a := none) (c := 0) rfl (fun r hr => by cases hr) HB0.out rfl
set_option maxRecDepth 100000 in
set_option maxHeartbeats 10000000 in
theorem right_eq_n (m h : Nat) (P : Nat → Prop) (a : Tm) (va : Value) (n : Int) (hn : 0 ≤ n ∧ n ≤ 65535) (hn0 : ¬ n = 0) (hn1 : ¬ n = 1) (hn2 : ¬ n = 65535) (w : World) (hs : shape h a = true) (ha : KP P w m va a.kids) :
    Calls Tryd.prog 145 #[.string ⟨#[61, 61]⟩, tmVal a va, .int .i64 n] w (FoldR (m + 1) P (rightT a ⟨#[61, 61]⟩ n) w) := by
  have HN := hid hn
  clear hn
  obtain ⟨sa, ca, rfl⟩ := ha.slice
  have HA := hid ha
  have HSh := hid hs
  clear ha hs
  obtain ⟨x0, x1, x2, la, hp⟩ := Pt.of a
  have HP := hid hp
  rw [hp.val]
  rw [hp.l] at HA ⊢
  clear hp
  have HB00 := hid ((Below.refl w.heap.size w).alloc (Nat.le_refl _) (.cells #[.int .i64 x0, .int .i64 x1, .string x2, .slice sa la ca] 28))
  have HB0 := hid (HB00.out.alloc HB00.out.size (.cells #[.int .i64 0, .int .i64 0, .string ⟨#[]⟩, .slice none 0 0] 28))
  have HZ0 := hid (Row.new (w.alloc (.cells #[.int .i64 x0, .int .i64 x1, .string x2, .slice sa la ca] 28)) 28 #[.int .i64 0, .int .i64 0, .string ⟨#[]⟩, .slice none 0 0])
  have HX0 := hid ((Row.new w 28 #[.int .i64 x0, .int .i64 x1, .string x2, .slice sa la ca]).alloc (.cells #[.int .i64 0, .int .i64 0, .string ⟨#[]⟩, .slice none 0 0] 28))
  have HBa := hid (HB00.out.alloc HB00.out.size (.cells #[.int .i64 x0, .int .i64 x1, .string x2, .slice sa la ca] 28))
  have HZa := hid (Row.new (w.alloc (.cells #[.int .i64 x0, .int .i64 x1, .string x2, .slice sa la ca] 28)) 28 #[.int .i64 x0, .int .i64 x1, .string x2, .slice sa la ca])
  simp only [World.size_alloc] at HZ0 HZa
  have HRt := hid (show rightT a ⟨#[61, 61]⟩ n = none by simp [rightT, opIs, hn0, hn1, hn2])
  have hnb0 : (n == 0) = false := by simpa using hn0
  have hnb1 : (n == 1) = false := by simpa using hn1
  have hnb2 : (n == 65535) = false := by simpa using hn2
  clear hn0 hn1 hn2
  go_enter Tryd.func145, Tryd.ntmps145
  go_wp2_with fail
  refine bodyPost_ret (v := .tuple #[.agg #[.int .i64 0, .int .i64 0, .string ⟨#[]⟩, .slice none 0 0], .bool false]) ?_ rfl ?_
  · exact results_cell_tmp Tryd.results145 _ _ (w.heap.size + 1) _ _ rfl HZ0.out Tryd.underlying28 size_term
  · rw [HRt.out]
    exact foldr_end (t := tz) (a := none) (c := 0) rfl (fun r hr => by cases hr) HB0.out rfl
set_option maxRecDepth 100000 in
set_option maxHeartbeats 10000000 in
theorem right_lt_0 (m h : Nat) (P : Nat → Prop) (a : Tm) (va : Value) (w : World) (hs : shape h a = true) (ha : KP P w m va a.kids) :
    Calls Tryd.prog 145 #[.string ⟨#[60]⟩, tmVal a va, .int .i64 0] w (FoldR (m + 1) P (rightT a ⟨#[60]⟩ 0) w) := by
  obtain ⟨sa, ca, rfl⟩ := ha.slice
  have HA := hid ha
  have HSh := hid hs
  clear ha hs
  obtain ⟨x0, x1, x2, la, hp⟩ := Pt.of a
  have HP := hid hp
  rw [hp.val]
  rw [hp.l] at HA ⊢
  clear hp
  have HB00 := hid ((Below.refl w.heap.size w).alloc (Nat.le_refl _) (.cells #[.int .i64 x0, .int .i64 x1, .string x2, .slice sa la ca] 28))
  have HB0 := hid (HB00.out.alloc HB00.out.size (.cells #[.int .i64 0, .int .i64 0, .string ⟨#[]⟩, .slice none 0 0] 28))
  have HZ0 := hid (Row.new (w.alloc (.cells #[.int .i64 x0, .int .i64 x1, .string x2, .slice sa la ca] 28)) 28 #[.int .i64 0, .int .i64 0, .string ⟨#[]⟩, .slice none 0 0])
  have HX0 := hid ((Row.new w 28 #[.int .i64 x0, .int .i64 x1, .string x2, .slice sa la ca]).alloc (.cells #[.int .i64 0, .int .i64 0, .string ⟨#[]⟩, .slice none 0 0] 28))
  have HBa := hid (HB00.out.alloc HB00.out.size (.cells #[.int .i64 x0, .int .i64 x1, .string x2, .slice sa la ca] 28))
  have HZa := hid (Row.new (w.alloc (.cells #[.int .i64 x0, .int .i64 x1, .string x2, .slice sa la ca] 28)) 28 #[.int .i64 x0, .int .i64 x1, .string x2, .slice sa la ca])
  simp only [World.size_alloc] at HZ0 HZa
  have HRt := hid (show rightT a ⟨#[60]⟩ 0 = none by simp [rightT, opIs])
  go_enter Tryd.func145, Tryd.ntmps145
  go_wp2_with fail
  refine bodyPost_ret (v := .tuple #[.agg #[.int .i64 0, .int .i64 0, .string ⟨#[]⟩, .slice none 0 0], .bool false]) ?_ rfl ?_
  · exact results_cell_tmp Tryd.results145 _ _ (w.heap.size + 1) _ _ rfl HZ0.out Tryd.underlying28 size_term
  · rw [HRt.out]
    exact foldr_end (t := tz) (a := none) (c := 0) rfl (fun r hr => by cases hr) HB0.out rfl
set_option maxRecDepth 100000 in
set_option maxHeartbeats 10000000 in
theorem right_lt_1 (m h : Nat) (P : Nat → Prop) (a : Tm) (va : Value) (w : World) (hs : shape h a = true) (ha : KP P w m va a.kids) :
    Calls Tryd.prog 145 #[.string ⟨#[60]⟩, tmVal a va, .int .i64 1] w (FoldR (m + 1) P (rightT a ⟨#[60]⟩ 1) w) := by
  obtain ⟨sa, ca, rfl⟩ := ha.slice
  have HA := hid ha
  have HSh := hid hs
  clear ha hs
  obtain ⟨x0, x1, x2, la, hp⟩ := Pt.of a
  have HP := hid hp
  rw [hp.val]
  rw [hp.l] at HA ⊢
  clear hp
  have HB00 := hid ((Below.refl w.heap.size w).alloc (Nat.le_refl _) (.cells #[.int .i64 x0, .int .i64 x1, .string x2, .slice sa la ca] 28))
  have HB0 := hid (HB00.out.alloc HB00.out.size (.cells #[.int .i64 0, .int .i64 0, .string ⟨#[]⟩, .slice none 0 0] 28))
  have HZ0 := hid (Row.new (w.alloc (.cells #[.int .i64 x0, .int .i64 x1, .string x2, .slice sa la ca] 28)) 28 #[.int .i64 0, .int .i64 0, .string ⟨#[]⟩, .slice none 0 0])
  have HX0 := hid ((Row.new w 28 #[.int .i64 x0, .int .i64 x1, .string x2, .slice sa la ca]).alloc (.cells #[.int .i64 0, .int .i64 0, .string ⟨#[]⟩, .slice none 0 0] 28))
  have HBa := hid (HB00.out.alloc HB00.out.size (.cells #[.int .i64 x0, .int .i64 x1, .string x2, .slice sa la ca] 28))
  have HZa := hid (Row.new (w.alloc (.cells #[.int .i64 x0, .int .i64 x1, .string x2, .slice sa la ca] 28)) 28 #[.int .i64 x0, .int .i64 x1, .string x2, .slice sa la ca])
  simp only [World.size_alloc] at HZ0 HZa
  have HRt := hid (show rightT a ⟨#[60]⟩ 1 = none by simp [rightT, opIs])
  go_enter Tryd.func145, Tryd.ntmps145
  go_wp2_with fail
  refine bodyPost_ret (v := .tuple #[.agg #[.int .i64 0, .int .i64 0, .string ⟨#[]⟩, .slice none 0 0], .bool false]) ?_ rfl ?_
  · exact results_cell_tmp Tryd.results145 _ _ (w.heap.size + 1) _ _ rfl HZ0.out Tryd.underlying28 size_term
  · rw [HRt.out]
    exact foldr_end (t := tz) (a := none) (c := 0) rfl (fun r hr => by cases hr) HB0.out rfl
set_option maxRecDepth 100000 in
set_option maxHeartbeats 10000000 in
theorem right_lt_65535 (m h : Nat) (P : Nat → Prop) (a : Tm) (va : Value) (w : World) (hs : shape h a = true) (ha : KP P w m va a.kids) :
    Calls Tryd.prog 145 #[.string ⟨#[60]⟩, tmVal a va, .int .i64 65535] w (FoldR (m + 1) P (rightT a ⟨#[60]⟩ 65535) w) := by
  obtain ⟨sa, ca, rfl⟩ := ha.slice
  have HA := hid ha
  have HSh := hid hs
  clear ha hs
  obtain ⟨x0, x1, x2, la, hp⟩ := Pt.of a
  have HP := hid hp
  rw [hp.val]
  rw [hp.l] at HA ⊢
  clear hp
  have HB00 := hid ((Below.refl w.heap.size w).alloc (Nat.le_refl _) (.cells #[.int .i64 x0, .int .i64 x1, .string x2, .slice sa la ca] 28))
  have HB0 := hid (HB00.out.alloc HB00.out.size (.cells #[.int .i64 0, .int .i64 0, .string ⟨#[]⟩, .slice none 0 0] 28))
  have HZ0 := hid (Row.new (w.alloc (.cells #[.int .i64 x0, .int .i64 x1, .string x2, .slice sa la ca] 28)) 28 #[.int .i64 0, .int .i64 0, .string ⟨#[]⟩, .slice none 0 0])
  have HX0 := hid ((Row.new w 28 #[.int .i64 x0, .int .i64 x1, .string x2, .slice sa la ca]).alloc (.cells #[.int .i64 0, .int .i64 0, .string ⟨#[]⟩, .slice none 0 0] 28))
  have HBa := hid (HB00.out.alloc HB00.out.size (.cells #[.int .i64 x0, .int .i64 x1, .string x2, .slice sa la ca] 28))
  have HZa := hid (Row.new (w.alloc (.cells #[.int .i64 x0, .int .i64 x1, .string x2, .slice sa la ca] 28)) 28 #[.int .i64 x0, .int .i64 x1, .string x2, .slice sa la ca])
  simp only [World.size_alloc] at HZ0 HZa
  have HRt := hid (show rightT a ⟨#[60]⟩ 65535 = none by simp [rightT, opIs])
  go_enter Tryd.func145, Tryd.ntmps145
  go_wp2_with fail
  refine bodyPost_ret (v := .tuple #[.agg #[.int .i64 0, .int .i64 0, .string ⟨#[]⟩, .slice none 0 0], .bool false]) ?_ rfl ?_
  · exact results_cell_tmp Tryd.results145 _ _ (w.heap.size + 1) _ _ rfl HZ0.out Tryd.underlying28 size_term
  · rw [HRt.out]
    exact foldr_end (t := tz) (a := none) (c := 0) rfl (fun r hr => by cases hr) HB0.out rfl
set_option maxRecDepth 100000 in
set_option maxHeartbeats 10000000 in
theorem right_lt_n (m h : Nat) (P : Nat → Prop) (a : Tm) (va : Value) (n : Int) (hn : 0 ≤ n ∧ n ≤ 65535) (hn0 : ¬ n = 0) (hn1 : ¬ n = 1) (hn2 : ¬ n = 65535) (w : World) (hs : shape h a = true) (ha : KP P w m va a.kids) :
    Calls Tryd.prog 145 #[.string ⟨#[60]⟩, tmVal a va, .int .i64 n] w (FoldR (m + 1) P (rightT a ⟨#[60]⟩ n) w) := by
  have HN := hid hn
  clear hn
  obtain ⟨sa, ca, rfl⟩ := ha.slice
  have HA := hid ha
  have HSh := hid hs
  clear ha hs
  obtain ⟨x0, x1, x2, la, hp⟩ := Pt.of a
  have HP := hid hp
  rw [hp.val]
  rw [hp.l] at HA ⊢
  clear hp
  have HB00 := hid ((Below.refl w.heap.size w).alloc (Nat.le_refl _) (.cells #[.int .i64 x0, .int .i64 x1, .string x2, .slice sa la ca] 28))
  have HB0 := hid (HB00.out.alloc HB00.out.size (.cells #[.int .i64 0, .int .i64 0, .string ⟨#[]⟩, .slice none 0 0] 28))
  have HZ0 := hid (Row.new (w.alloc (.cells #[.int .i64 x0, .int .i64 x1, .string x2, .slice sa la ca] 28)) 28 #[.int .i64 0, .int .i64 0, .string ⟨#[]⟩, .slice none 0 0])
  have HX0 := hid ((Row.new w 28 #[.int .i64 x0, .int .i64 x1, .string x2, .slice sa la ca]).alloc (.cells #[.int .i64 0, .int .i64 0, .string ⟨#[]⟩, .slice none 0 0] 28))
  have HBa := hid (HB00.out.alloc HB00.out.size (.cells #[.int .i64 x0, .int .i64 x1, .string x2, .slice sa la ca] 28))
  have HZa := hid (Row.new (w.alloc (.cells #[.int .i64 x0, .int .i64 x1, .string x2, .slice sa la ca] 28)) 28 #[.int .i64 x0, .int .i64 x1, .string x2, .slice sa la ca])
  simp only [World.size_alloc] at HZ0 HZa
  have HRt := hid (show rightT a ⟨#[60]⟩ n = none by simp [rightT, opIs, hn0, hn1, hn2])
  have hnb0 : (n == 0) = false := by simpa using hn0
  have hnb1 : (n == 1) = false := by simpa using hn1
  have hnb2 : (n == 65535) = false := by simpa using hn2
  clear hn0 hn1 hn2
  go_enter Tryd.func145, Tryd.ntmps145
  go_wp2_with fail
  refine bodyPost_ret (v := .tuple #[.agg #[.int .i64 0, .int .i64 0, .string ⟨#[]⟩, .slice none 0 0], .bool false]) ?_ rfl ?_
  · exact results_cell_tmp Tryd.results145 _ _ (w.heap.size + 1) _ _ rfl HZ0.out Tryd.underlying28 size_term
  · rw [HRt.out]
    exact foldr_end (t := tz) (a := none) (c := 0) rfl (fun r hr => by cases hr) HB0.out rfl
set_option maxRecDepth 100000 in
set_option maxHeartbeats 10000000 in
theorem right_lo_1 (m h : Nat) (P : Nat → Prop) (a : Tm) (va : Value) (w : World) (hs : shape h a = true) (ha : KP P w m va a.kids) :
    Calls Tryd.prog 145 #[.string ⟨#[60, 60]⟩, tmVal a va, .int .i64 1] w (FoldR (m + 1) P (rightT a ⟨#[60, 60]⟩ 1) w) := by
  obtain ⟨sa, ca, rfl⟩ := ha.slice
  have HA := hid ha
  have HSh := hid hs
  clear ha hs
  obtain ⟨x0, x1, x2, la, hp⟩ := Pt.of a
  have HP := hid hp
  rw [hp.val]
  rw [hp.l] at HA ⊢
  clear hp
  have HB00 := hid ((Below.refl w.heap.size w).alloc (Nat.le_refl _) (.cells #[.int .i64 x0, .int .i64 x1, .string x2, .slice sa la ca] 28))
  have HB0 := hid (HB00.out.alloc HB00.out.size (.cells #[.int .i64 0, .int .i64 0, .string ⟨#[]⟩, .slice none 0 0] 28))
  have HZ0 := hid (Row.new (w.alloc (.cells #[.int .i64 x0, .int .i64 x1, .string x2, .slice sa la ca] 28)) 28 #[.int .i64 0, .int .i64 0, .string ⟨#[]⟩, .slice none 0 0])
  have HX0 := hid ((Row.new w 28 #[.int .i64 x0, .int .i64 x1, .string x2, .slice sa la ca]).alloc (.cells #[.int .i64 0, .int .i64 0, .string ⟨#[]⟩, .slice none 0 0] 28))
  have HBa := hid (HB00.out.alloc HB00.out.size (.cells #[.int .i64 x0, .int .i64 x1, .string x2, .slice sa la ca] 28))
  have HZa := hid (Row.new (w.alloc (.cells #[.int .i64 x0, .int .i64 x1, .string x2, .slice sa la ca] 28)) 28 #[.int .i64 x0, .int .i64 x1, .string x2, .slice sa la ca])
  simp only [World.size_alloc] at HZ0 HZa
  have HRt := hid (show rightT a ⟨#[60, 60]⟩ 1 = none by simp [rightT, opIs])
  go_enter Tryd.func145, Tryd.ntmps145
  go_wp2_with fail
  refine bodyPost_ret (v := .tuple #[.agg #[.int .i64 0, .int .i64 0, .string ⟨#[]⟩, .slice none 0 0], .bool false]) ?_ rfl ?_
  · exact results_cell_tmp Tryd.results145 _ _ (w.heap.size + 1) _ _ rfl HZ0.out Tryd.underlying28 size_term
  · rw [HRt.out]
    exact foldr_end (t := tz) (a := none) (c := 0) rfl (fun r hr => by cases hr) HB0.out rfl
set_option maxRecDepth 100000 in
set_option maxHeartbeats 10000000 in
theorem right_lo_65535 (m h : Nat) (P : Nat → Prop) (a : Tm) (va : Value) (w : World) (hs : shape h a = true) (ha : KP P w m va a.kids) :
    Calls Tryd.prog 145 #[.string ⟨#[60, 60]⟩, tmVal a va, .int .i64 65535] w (FoldR (m + 1) P (rightT a ⟨#[60, 60]⟩ 65535) w) := by
  obtain ⟨sa, ca, rfl⟩ := ha.slice
  have HA := hid ha
  have HSh := hid hs
  clear ha hs
  obtain ⟨x0, x1, x2, la, hp⟩ := Pt.of a
  have HP := hid hp
  rw [hp.val]
  rw [hp.l] at HA ⊢
  clear hp
  have HB00 := hid ((Below.refl w.heap.size w).alloc (Nat.le_refl _) (.cells #[.int .i64 x0, .int .i64 x1, .string x2, .slice sa la ca] 28))
  have HB0 := hid (HB00.out.alloc HB00.out.size (.cells #[.int .i64 0, .int .i64 0, .string ⟨#[]⟩, .slice none 0 0] 28))
  have HZ0 := hid (Row.new (w.alloc (.cells #[.int .i64 x0, .int .i64 x1, .string x2, .slice sa la ca] 28)) 28 #[.int .i64 0, .int .i64 0, .string ⟨#[]⟩, .slice none 0 0])
  have HX0 := hid ((Row.new w 28 #[.int .i64 x0, .int .i64 x1, .string x2, .slice sa la ca]).alloc (.cells #[.int .i64 0, .int .i64 0, .string ⟨#[]⟩, .slice none 0 0] 28))
  have HBa := hid (HB00.out.alloc HB00.out.size (.cells #[.int .i64 x0, .int .i64 x1, .string x2, .slice sa la ca] 28))
  have HZa := hid (Row.new (w.alloc (.cells #[.int .i64 x0, .int .i64 x1, .string x2, .slice sa la ca] 28)) 28 #[.int .i64 x0, .int .i64 x1, .string x2, .slice sa la ca])
  simp only [World.size_alloc] at HZ0 HZa
  have HRt := hid (show rightT a ⟨#[60, 60]⟩ 65535 = none by simp [rightT, opIs])
  go_enter Tryd.func145, Tryd.ntmps145
  go_wp2_with fail
  refine bodyPost_ret (v := .tuple #[.agg #[.int .i64 0, .int .i64 0, .string ⟨#[]⟩, .slice none 0 0], .bool false]) ?_ rfl ?_
  · exact results_cell_tmp Tryd.results145 _ _ (w.heap.size + 1) _ _ rfl HZ0.out Tryd.underlying28 size_term
  · rw [HRt.out]
    exact foldr_end (t := tz) (a := none) (c := 0) rfl (fun r hr => by cases hr) HB0.out rfl
set_option maxRecDepth 100000 in
set_option maxHeartbeats 10000000 in
theorem right_lo_n (m h : Nat) (P : Nat → Prop) (a : Tm) (va : Value) (n : Int) (hn : 0 ≤ n ∧ n ≤ 65535) (hn0 : ¬ n = 0) (hn1 : ¬ n = 1) (hn2 : ¬ n = 65535) (w : World) (hs : shape h a = true) (ha : KP P w m va a.kids) :
    Calls Tryd.prog 145 #[.string ⟨#[60, 60]⟩, tmVal a va, .int .i64 n] w (FoldR (m + 1) P (rightT a ⟨#[60, 60]⟩ n) w) := by
  have HN := hid hn
  clear hn
  obtain ⟨sa, ca, rfl⟩ := ha.slice
  have HA := hid ha
  have HSh := hid hs
  clear ha hs
  obtain ⟨x0, x1, x2, la, hp⟩ := Pt.of a
  have HP := hid hp
  rw [hp.val]
  rw [hp.l] at HA ⊢
  clear hp
  have HB00 := hid ((Below.refl w.heap.size w).alloc (Nat.le_refl _) (.cells #[.int .i64 x0, .int .i64 x1, .string x2, .slice sa la ca] 28))
  have HB0 := hid (HB00.out.alloc HB00.out.size (.cells #[.int .i64 0, .int .i64 0, .string ⟨#[]⟩, .slice none 0 0] 28))
  have HZ0 := hid (Row.new (w.alloc (.cells #[.int .i64 x0, .int .i64 x1, .string x2, .slice sa la ca] 28)) 28 #[.int .i64 0, .int .i64 0, .string ⟨#[]⟩, .slice none 0 0])
  have HX0 := hid ((Row.new w 28 #[.int .i64 x0, .int .i64 x1, .string x2, .slice sa la ca]).alloc (.cells #[.int .i64 0, .int .i64 0, .string ⟨#[]⟩, .slice none 0 0] 28))
  have HBa := hid (HB00.out.alloc HB00.out.size (.cells #[.int .i64 x0, .int .i64 x1, .string x2, .slice sa la ca] 28))
  have HZa := hid (Row.new (w.alloc (.cells #[.int .i64 x0, .int .i64 x1, .string x2, .slice sa la ca] 28)) 28 #[.int .i64 x0, .int .i64 x1, .string x2, .slice sa la ca])
  simp only [World.size_alloc] at HZ0 HZa
  have HRt := hid (show rightT a ⟨#[60, 60]⟩ n = none by simp [rightT, opIs, hn0, hn1, hn2])
  have hnb0 : (n == 0) = false := by simpa using hn0
  have hnb1 : (n == 1) = false := by simpa using hn1
  have hnb2 : (n == 65535) = false := by simpa using hn2
  clear hn0 hn1 hn2
  go_enter Tryd.func145, Tryd.ntmps145
  go_wp2_with fail
  refine bodyPost_ret (v := .tuple #[.agg #[.int .i64 0, .int .i64 0, .string ⟨#[]⟩, .slice none 0 0], .bool false]) ?_ rfl ?_
  · exact results_cell_tmp Tryd.results145 _ _ (w.heap.size + 1) _ _ rfl HZ0.out Tryd.underlying28 size_term
  · rw [HRt.out]
    exact foldr_end (t := tz) (a := none) (c := 0) rfl (fun r hr => by cases hr) HB0.out rfl
end Go.Proofs.YtffibmlgdacafaaDoor.Um
