/- Simpler terms: what both sides ask of a term, and rows of parts of one's own; the small functions of the program and of the model. -/
import Derived.Test.YtffibmlgdacafaaDoorVt
import Derived.Test.YtffibmlgdacafaaDoorUj2
set_option linter.unusedSimpArgs false
set_option linter.unusedVariables false
namespace Go.Proofs.YtffibmlgdacafaaDoor.Um
open Go.RowKit Pl Ft Mm In C2 Im

theorem own_bin {w : World} {base n lo f0 g0 f1 g1 : Nat} {v va vb : Value} {a b : Tm} (hrow : w.ownsRow base 28 4 v 2 (tCells [a, b] [va, vb])) (ha : KOwn w n f0 g0 va a.kids) (hb : KOwn w n f1 g1 vb b.kids)
    (h0 : lo ≤ f0) (h1 : lo ≤ f1) (h2 : g0 ≤ base) (h3 : g1 ≤ base) (h4 : g0 ≤ f1 ∨ g1 ≤ f0) (hl : lo ≤ base) (hz : base ≤ w.heap.size) : KOwn w (n + 1) lo w.heap.size v [a, b] := by
  refine ⟨[va, vb], (fun j => if j = 0 then f0 else f1), (fun j => if j = 0 then g0 else g1), rfl, by omega, own_mono hrow hl, fun r hr => ⟨(hrow.lt r hr).2, fun j hj => ?_⟩, fun j hj => ?_⟩
  · have := (hrow.lt r hr).1
    right
    simp only
    split <;> omega
  · have hj2 : j = 0 ∨ j = 1 := by simp at hj; omega
    rcases hj2 with rfl | rfl
    · exact ⟨by simp [h0], by simp; omega, fun i hi => by omega, ha⟩
    · refine ⟨by simp [h1], by simp; omega, fun i hi => ?_, hb⟩
      obtain rfl : i = 0 := by omega
      simpa using h4
theorem own_not {w : World} {base n lo f0 g0 : Nat} {v va : Value} {a : Tm} (hrow : w.ownsRow base 28 4 v 1 (tCells [a] [va])) (ha : KOwn w n f0 g0 va a.kids)
    (h0 : lo ≤ f0) (h2 : g0 ≤ base) (hl : lo ≤ base) (hz : base ≤ w.heap.size) : KOwn w (n + 1) lo w.heap.size v [a] := by
  refine ⟨[va], (fun _ => f0), (fun _ => g0), rfl, by omega, own_mono hrow hl, fun r hr => ⟨(hrow.lt r hr).2, fun j hj => .inr (show g0 ≤ r by have := (hrow.lt r hr).1; omega)⟩, fun j hj => ?_⟩
  obtain rfl : j = 0 := by simpa using hj
  exact ⟨h0, (show g0 ≤ w.heap.size by omega), fun i hi => by omega, ha⟩
/-- The parts of a term of one's own. -/
theorem KOwn.kid {w : World} {n lo hi : Nat} {v : Value} {ks : List Tm} (h : KOwn w (n + 1) lo hi v ks) : ∃ (us : List Value) (f g : Nat → Nat), us.length = ks.length ∧ w.ownsRow lo 28 4 v ks.length (tCells ks us) ∧ ∀ j, j < ks.length → lo ≤ f j ∧ g j ≤ hi ∧ (∀ i, i < j → g i ≤ f j ∨ g j ≤ f i) ∧ KOwn w n (f j) (g j) (us.getD j vz) (ks.getD j tz).kids := by
  obtain ⟨us, f, g, h1, _, h3, _, h5⟩ := h
  exact ⟨us, f, g, h1, h3, h5⟩
theorem op_lit {s : ByteArray} (h : isOp s = true) : s = ⟨#[43]⟩ ∨ s = ⟨#[45]⟩ ∨ s = ⟨#[42]⟩ ∨ s = ⟨#[38]⟩ ∨ s = ⟨#[124]⟩ ∨ s = ⟨#[94]⟩ ∨ s = ⟨#[61, 61]⟩ ∨ s = ⟨#[60]⟩ ∨ s = ⟨#[60, 60]⟩ := by
  have hm : s.toList ∈ opTexts := by simpa [isOp] using h
  simp only [opTexts, List.mem_cons, List.not_mem_nil, or_false] at hm
  rcases hm with h | h | h | h | h | h | h | h | h
  all_goals
    have e := text_of h
    subst e
    simp
/-- What a function gives that makes a simpler term of others, if there is one: its parts lie in blocks below G, where those of the others are, or in new ones. -/
def FoldPost (m lo G : Nat) (o : Option Tm) (w : World) (e : Ending) (w' : World) : Prop :=
  ∃ (t : Tm) (a : Option Addr) (c : Nat), e = .returned (.tuple #[tmVal t (.slice a t.kids.length c), .bool o.isSome]) ∧
    (∀ r, o = some r → t = r ∧ ∀ x : World, w'.heap.size ≤ x.heap.size → (∀ k, k < G ∨ w.heap.size ≤ k → k < w'.heap.size → x.heap[k]? = w'.heap[k]?) → KOwn x m lo x.heap.size (.slice a t.kids.length c) r.kids) ∧ Below w.heap.size w w'
theorem keep_old {w wf : World} {m f0 g0 G : Nat} {va : Value} {ks : List Tm} (ha : KOwn w m f0 g0 va ks) (hg : g0 ≤ G) (hG : G ≤ w.heap.size) (hbl : Below w.heap.size w wf) (x : World)
    (hx : ∀ k, k < G ∨ w.heap.size ≤ k → k < wf.heap.size → x.heap[k]? = wf.heap[k]?) : KOwn x m f0 g0 va ks :=
  ha.keep (fun b _ h2 h3 => (hx b (.inl (by omega)) (by have := hbl.size; omega)).trans (hbl.block b h3))
theorem numberTerm_c (n : Int) (w : World) : Calls Tryd.prog 131 #[.int .i64 n] w fun e w' => e = .returned (tmVal (nT n) (.slice none 0 0)) ∧ Below w.heap.size w w' := by
  go_enter Tryd.func131, Tryd.ntmps131
  go_wp2_with fail
  refine bodyPost_ret (v := .agg #[.int .i64 0, .int .i64 n, .string ⟨#[]⟩, .slice none 0 0])
    (results_cell_row Tryd.results131 _ _ w.heap.size 28 #[.int .i64 0, .int .i64 n, .string ⟨#[]⟩, .slice none 0 0] (0, 0) _ rfl (Row.new w 28 #[.int .i64 0, .int .i64 n, .string ⟨#[]⟩, .slice none 0 0]) Tryd.underlying28 rfl size_term) rfl ?_
  exact ⟨rfl, (Below.refl _ _).alloc (Nat.le_refl _) _⟩
theorem isNumber_c (t : Tm) (kv : Value) (w : World) : Calls Tryd.prog 149 #[tmVal t kv] w fun e w' => e = .returned (.bool (t.kind == 0)) ∧ Below w.heap.size w w' := by
  obtain ⟨k, n, s, l⟩ := t
  unfold tmVal
  simp only [Tm.kind, Tm.num, Tm.text]
  go_enter Tryd.func149, Tryd.ntmps149
  go_wp2_with fail
  go_ret
  exact ⟨bool_eq rfl, (Below.refl _ _).alloc (Nat.le_refl _) _⟩
def turnsL : List (List UInt8) := [[43], [42], [38], [124], [94], [61, 61]]
theorem isTurned_c (s : ByteArray) (w : World) (h : isOp s = true) : Calls Tryd.prog 150 #[.string s] w fun e w' => e = .returned (.bool (opIs s [[43], [42], [38], [124], [94], [61, 61]])) ∧ Below w.heap.size w w' := by
  rcases op_lit h with rfl | rfl | rfl | rfl | rfl | rfl | rfl | rfl | rfl
  all_goals
    clear h
    go_enter Tryd.func150, Tryd.ntmps150
    go_wp2_with fail
    go_ret
    exact ⟨bool_eq (by decide), Below.refl _ _⟩
theorem turns_c (s : ByteArray) (w : World) (h : isOp s = true) : Calls Tryd.prog 144 #[.string s] w fun e w' => e = .returned (.bool (opIs s [[43], [42], [38], [124], [94], [61, 61]])) ∧ Below w.heap.size w w' := by
  rcases op_lit h with rfl | rfl | rfl | rfl | rfl | rfl | rfl | rfl | rfl
  all_goals
    clear h
    go_enter Tryd.func144, Tryd.ntmps144
    go_wp2_with fail
    go_ret
    exact ⟨bool_eq (by decide), Below.refl _ _⟩
end Go.Proofs.YtffibmlgdacafaaDoor.Um
