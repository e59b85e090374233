/- For every two terms, valid or not, without a ring, and every text, the TermPut of the program and of the model answer the same, what the program gives is its own, and it changes nothing in the terms. The card: the row lists two tables, tied to the program's text by the given tie. No conditions but those that the given row prints.
-/
import Derived.Test.YtgenojpdjplccaaDoorLb
import Derived.Test.YtgenojpdjplccaaDoorCardT
import Derived.Lib.SmallJoins
import Derived.ShutString
import Derived.ChangeOld
set_option linter.unusedSimpArgs false
set_option linter.unusedVariables false
namespace Go.Proofs.YtgenojpdjplccaaDoor.fnExactTermPut
open Go.ChangeShapes Go.WideShapes Go.ChangeAt Go.RowKit Go.Joins CardT

def listed : List (String × DataW Unit) := Rows.fnExactTermPutRow.laid
theorem tabsOf {W : World} (h : laidMetH Tryd.prog listed W) : Um.Tabs W :=
  tabs (laidMetH.filter (fun x => x.1 == "loop.example/liftedcode/impl.termForms") h) (laidMetH.filter (fun x => x.1 == "loop.example/liftedcode/impl.operators") h)
set_option maxRecDepth 100000 in
theorem walk {H : Type} (enc : TypeId × Value → H) (w : World) (base : Nat) (v0 : Value) (d0 : DataW H) (p0 : List MemPlace) (v1 : Value) (d1 : DataW H) (p1 : List MemPlace) (v2 : Value) (d2 : DataW H) (p2 : List MemPlace) (hL : laidMetH Tryd.prog Rows.fnExactTermPutRow.laid w)
    (o0 : Value.okWide Tryd.prog w .any base 54 v0) (r0 : DataW.Trod enc Tryd.prog w 0 (fun _ => true) true 54 v0 d0 p0) (o1 : Value.okWide Tryd.prog w .any base 9 v1) (r1 : DataW.Trod enc Tryd.prog w 0 (fun _ => true) true 9 v1 d1 p1) (o2 : Value.okWide Tryd.prog w .any base 54 v2) (r2 : DataW.Trod enc Tryd.prog w 0 (fun _ => true) true 54 v2 d2 p2) :
    Calls Tryd.prog 10 #[v0, v1, v2] w fun e w' => e = .returned (.bool true) ∧ Below w.heap.size w w' := by
  obtain ⟨n, t, kv, rfl, hr, hl, ht⟩ := Um.term_of o0 r0
  obtain ⟨s, rfl⟩ := okWide_string Tryd.underlying9 o1
  obtain ⟨f1, hf1⟩ := r1
  obtain ⟨s', hs', _, hsz⟩ := DataW.trod_string Tryd.underlying9 hf1
  have hss : s = s' := by simpa [Value.cells] using hs'
  subst hss
  unfold maxLen at hsz
  obtain ⟨n2, t2, kv2, rfl, hr2, hl2, ht2⟩ := Um.term_of o2 r2
  exact Um.exactTermPut_w (n + n2) s t t2 kv kv2 w (hr.mono (by omega)) (hr2.mono (by omega)) (hl.mono (by omega)) (hl2.mono (by omega)) ht ht2 (by omega) (tabsOf hL)

set_option maxRecDepth 100000 in
theorem contract (H : Type) (enc : TypeId × Value → H) (W : World) (base : Nat) (args : Array Value) (ds gs : List (DataW H)) (before : List MemPlace)
    (hval : ∀ (j : Nat) t v, Tryd.f10.params[j]? = some t → args[j]? = some v → Value.okWide Tryd.prog W .any base t v)
    (hW : DataW.Whole enc Tryd.prog Tryd.f10.params.toList Rows.fnExactTermPutSpec.vars false W args.toList ds gs before) (hL : laidMetH Tryd.prog Rows.fnExactTermPutRow.laid W) :
    Calls Tryd.prog 10 args W fun e W' => ∃ v, e = .returned v ∧ Rows.fnExactTermPutSpec.post enc Tryd.prog Tryd.f10 false true false false W args v W' := by
  have hW' := hW
  obtain ⟨p, q, hA0, hV, rfl, hfz, hnd⟩ := hW
  have hA : DataW.TrodAll enc Tryd.prog W 0 (fun _ => true) true Tryd.f10.params.toList args.toList ds p := hA0
  have hV2 := hV
  obtain ⟨_, _, _, _, g0, _, _, _, _, _, g1, _, rfl, _⟩ := trodVars_two hV
  rw [Tryd.params10] at hA hval
  obtain ⟨v0, vs0, d0, ds0, p0, q0, hargs, rfl, rfl, h0, r0⟩ := trodAll_cons hA
  obtain ⟨v1, vs1, d1, ds1, p1, q1, rfl, rfl, rfl, h1, r1⟩ := trodAll_cons r0
  obtain ⟨v2, vs2, d2, ds2, p2, q2, rfl, rfl, rfl, h2, r2⟩ := trodAll_cons r1
  obtain ⟨rfl, rfl, rfl⟩ := trodAll_nil r2
  obtain rfl : args = #[v0, v1, v2] := by cases args; simp_all
  have lt0 : ∀ x ∈ p0, x.block < W.heap.size := by obtain ⟨m, hm⟩ := h0; exact DataW.trod_lt m _ _ _ hm
  have lt1 : ∀ x ∈ p1, x.block < W.heap.size := by obtain ⟨m, hm⟩ := h1; exact DataW.trod_lt m _ _ _ hm
  have lt2 : ∀ x ∈ p2, x.block < W.heap.size := by obtain ⟨m, hm⟩ := h2; exact DataW.trod_lt m _ _ _ hm
  refine (walk enc W base v0 d0 p0 v1 d1 p1 v2 d2 p2 hL (hval 0 54 v0 rfl rfl) h0 (hval 1 9 v1 rfl rfl) h1 (hval 2 54 v2 rfl rfl) h2).mono fun e W' ⟨he, bel⟩ => ?_
  subst he
  exact ⟨_, rfl, _, _, _, [], _, _, hW', trodAll_mk1 (shut_bool Tryd.underlying4 _), (trodAll_cons_mk (Below.trod laidOut (by kernel_rfl) (of_decide_eq_true (by kernel_rfl)) h0 bel lt0) (trodAll_cons_mk (Below.trod laidOut (by kernel_rfl) (of_decide_eq_true (by kernel_rfl)) h1 bel lt1) (trodAll_cons_mk (Below.trod laidOut (by kernel_rfl) (of_decide_eq_true (by kernel_rfl)) h2 bel lt2) trodAll_mk0))), Below.trodVars laidOut bel (by kernel_rfl) hV2, bel.frame _, fun h => by cases h⟩

def args0 : Array Value := #[.agg #[.int .i64 0, .int .i64 0, .string ⟨#[]⟩, .slice none 0 0], .string ⟨#[]⟩, .agg #[.int .i64 0, .int .i64 0, .string ⟨#[]⟩, .slice none 0 0]]
theorem laid_met (os : Os) : laidMet Tryd.prog Rows.fnExactTermPutRow.laid ((laidWorld os).forCall (fun _ _ => 0) ⟨#[], args0, []⟩).memory :=
  laidMet_of_run' 8 (by kernel_rfl) (by kernel_rfl)
theorem reads (os : Os) {H : Type} (enc : TypeId × Value → H) : ∃ ds gs places, DataW.whole enc Tryd.prog ((laidWorld os).forCall (fun _ _ => 0) ⟨#[], args0, []⟩).memory Tryd.f10.params.toList Rows.fnExactTermPutSpec.vars false args0.toList 8 = some (ds, gs, places) :=
  ⟨[.agg [.lit (.int .i64 0), .lit (.int .i64 0), .lit (.string []), .nil], .lit (.string []), .agg [.lit (.int .i64 0), .lit (.int .i64 0), .lit (.string []), .nil]], [Rows.laid_loop_example_liftedcode_impl_termForms, Rows.laid_loop_example_liftedcode_impl_operators], MemPlace.row ⟨1, 0, none⟩ 30 ++ MemPlace.row ⟨0, 0, none⟩ 27, by kernel_rfl⟩

set_option maxRecDepth 100000 in
theorem lifted (os : Os) (started : os.Started) (H : Type) (enc : TypeId × Value → H) (F : Stop.Interp) :
    ReturnsInHanded {} Tryd.checked os 10 .any ((OpenSpec.ofChange Rows.fnExactTermPutSpec).preRow enc Tryd.prog Tryd.f10 Rows.fnExactTermPutRow.domain false Rows.fnExactTermPutRow.laid) (((OpenSpec.ofChange Rows.fnExactTermPutSpec).at F).post enc Tryd.prog Tryd.f10 false true false false) := by
  obtain ⟨ds, gs, places, hx⟩ := reads os enc
  refine returnsInHanded_of_row (C := Tryd.checked) (s := OpenSpec.ofChange Rows.fnExactTermPutSpec) own started (by kernel_rfl) Tryd.func10
    (witness_row_at (enc := enc) (C := Tryd.checked) false (laidWorld os) args0 rfl (by kernel_rfl) (by kernel_rfl) (by kernel_rfl)
      (OpenSpec.preRow_of_cond 8 hx (by kernel_rfl) (fun k hk => by cases hk) (by kernel_rfl) (laid_met os))) ?_
  intro W base args ds gs before hval hW _ _ _ hL _ _
  exact contract H enc W base args ds gs before hval hW hL

theorem said : Rows.FnExactTermPutSaid :=
  OpenClaim.holds_of_cond 10 Tryd.f10 rfl rfl rfl rfl rfl rfl rfl ⟨rfl, rfl, rfl, rfl, rfl⟩ rfl rfl rfl rfl rfl (by kernel_rfl) Tryd.func10 (by kernel_rfl)
    (of_decide_eq_true (by kernel_rfl)) (by unfold Func.isWrapper; first | (rw [if_pos (by decide +kernel)]; kernel_rfl) | (rw [if_neg (by decide +kernel)]; exact ⟨rfl, rfl⟩))
    (fun os started H enc _ F => by rw [OpenClaim.pre_eq_preRow]; exact lifted os started H enc F)

theorem plain (f : FuncId) (fn : Func) (hf : Tryd.pinned.checked.prog.funcNamed "loop.example/liftedcode/laws.FnExactTermPut" = some f) (hfn : Tryd.pinned.checked.prog.funcs[f]? = some fn) :
    true = Tryd.pinned.checked.prog.looks [] ∧ ∀ (j : Nat) t, fn.params[j]? = some t → Tryd.pinned.checked.prog.wantsStandIn t = false := by
  obtain rfl : f = 10 := Option.some.inj ((show Tryd.prog.funcNamed "loop.example/liftedcode/laws.FnExactTermPut" = some 10 by kernel_rfl).symm.trans hf) |>.symm
  obtain rfl : fn = Tryd.f10 := (Option.some.inj (Tryd.func10.symm.trans hfn)).symm
  refine ⟨by kernel_rfl, fun j t ht => ?_⟩
  rw [Tryd.params10] at ht
  have hm : t ∈ [54, 9, 54] := by simpa using Array.mem_of_getElem? ht
  have hall : ([54, 9, 54].all fun u => !Tryd.prog.wantsStandIn u) = true := by kernel_rfl
  exact (show Tryd.prog.wantsStandIn t = false by simpa using List.all_eq_true.1 hall t hm)

/-- The card. -/
theorem proved : Rows.FnExactTermPutCardSaid :=
  Claim7.holds_tied_plain_at .later [] _ _ _ _ said (fun _ h => by cases h) (by kernel_rfl) (fun _ h => by cases h) fnExactTermPut_row_tie rfl ⟨rfl, rfl⟩ (by kernel_rfl) rfl plain (by kernel_rfl)
#print axioms proved
end Go.Proofs.YtgenojpdjplccaaDoor.fnExactTermPut
