/- Listings, plainly; slices of structs as flat cells. No program is spoken of here · What is reached in code, plainly. No program is spoken of here · The bytes of a listing, plainly. No program is spoken of here. -/
import Derived.Test.YtihhpgklpichgaaGreatBack
import Derived.Test.YtihhpgklpichgaaGreatMem
set_option linter.unusedSimpArgs false
set_option linter.unusedVariables false
namespace Go.Proofs.YtihhpgklpichgaaGreat.Sw
open Go.RowKit Pl Ft Mm In C2

/-- The slice v of n elements reads as these cells, one after another. -/
def CRd (w : World) (v : Value) (n : Nat) (cs : List Value) : Prop :=
  ∃ a cap, v = .slice a n cap ∧ (n = 0 ∨ ∃ g o, a = some ⟨g, o, none⟩ ∧ g < w.heap.size ∧ ∀ j u, cs[j]? = some u → w.cell? ⟨g, o + j, none⟩ = some u)
theorem CRd.on {w w' : World} {v : Value} {n : Nat} {cs : List Value} (h : CRd w v n cs) (hb : Below w.heap.size w w') : CRd w' v n cs := by
  obtain ⟨a, cap, e, h⟩ := h
  refine ⟨a, cap, e, ?_⟩
  rcases h with h | ⟨g, o, ea, hg, hc⟩
  · exact .inl h
  · refine .inr ⟨g, o, ea, Nat.lt_of_lt_of_le hg hb.size, fun j u hu => ?_⟩
    rw [hb.cell (p := ⟨g, o + j, none⟩) hg]
    exact hc j u hu
theorem CRd.of_own {w : World} {base : Nat} {e : TypeId} {size : Nat} {v : Value} {n : Nat} {cs : List Value} (h : w.ownsRow base e size v n cs) : CRd w v n cs := by
  obtain ⟨a, cap, rfl⟩ := own_slice h
  refine ⟨a, cap, rfl, ?_⟩
  by_cases h0 : n = 0
  · exact .inl h0
  · obtain ⟨g, cap', hv, _, hg⟩ := own_addr h (by omega)
    have ha : a = some ⟨g, 0, none⟩ := by simp at hv; exact hv.1
    subst ha
    refine .inr ⟨g, 0, rfl, hg, fun j u hu => ?_⟩
    have := h.cells (g := g) rfl j u hu
    have e : (⟨g, 0, none⟩ : Addr).add j = ⟨g, j, none⟩ := by unfold Addr.add; split <;> simp_all
    rw [e] at this
    rw [Nat.zero_add]
    exact this
theorem CRd.slice {w : World} {v : Value} {n : Nat} {cs : List Value} (h : CRd w v n cs) : ∃ a cap, v = .slice a n cap := by obtain ⟨a, cap, e, _⟩ := h; exact ⟨a, cap, e⟩
theorem flat_len {α β : Type} (c : α → List β) (m : Nat) (hm : ∀ x, (c x).length = m) : ∀ l : List α, (l.flatMap c).length = l.length * m
  | [] => by simp
  | x :: l => by rw [List.flatMap_cons, List.length_append, hm, flat_len c m hm l, List.length_cons, Nat.succ_mul]; omega
theorem flat_one {α : Type} (c : α → List Value) (h : ∀ x, ∀ u ∈ c x, u.oneCell' = true) (l : List α) : ∀ u ∈ l.flatMap c, u.oneCell' = true := by
  intro u hu
  obtain ⟨x, _, hx⟩ := List.mem_flatMap.1 hu
  exact h x u hx

structure ILine where
  at_ : Int
  is : Bool
  ins : IIns
  byte : Int
deriving DecidableEq
def ILine.none : ILine := ⟨0, false, insZero, 0⟩
def ILine.cells (l : ILine) : List Value := [.int .i64 l.at_, .bool l.is, .int .i64 l.ins.op, .int .i64 l.ins.a, .int .i64 l.ins.b, .int .i64 l.ins.n, .int .i64 l.byte]
theorem ILine.seven (l : ILine) : l.cells.length = 7 := rfl
def lnCells (l : List ILine) : List Value := l.flatMap ILine.cells
theorem lnCells_len (l : List ILine) : (lnCells l).length = l.length * 7 := flat_len _ 7 (fun _ => rfl) l
theorem lnCells_one (l : List ILine) : ∀ u ∈ lnCells l, u.oneCell' = true := flat_one _ (fun x u hu => by
  simp only [ILine.cells, List.mem_cons, List.not_mem_nil, or_false] at hu
  rcases hu with rfl | rfl | rfl | rfl | rfl | rfl | rfl <;> rfl) l
theorem lnCells_app (a b : List ILine) : lnCells (a ++ b) = lnCells a ++ lnCells b := by simp [lnCells]
theorem lnCells_get (l : List ILine) (k : Nat) (h : k < l.length) : (lnCells l)[k * 7]? = some (.int .i64 (l.getD k .none).at_) ∧ (lnCells l)[k * 7 + 1]? = some (.bool (l.getD k .none).is) ∧ (lnCells l)[k * 7 + 2]? = some (.int .i64 (l.getD k .none).ins.op) ∧ (lnCells l)[k * 7 + 3]? = some (.int .i64 (l.getD k .none).ins.a) ∧ (lnCells l)[k * 7 + 4]? = some (.int .i64 (l.getD k .none).ins.b) ∧ (lnCells l)[k * 7 + 5]? = some (.int .i64 (l.getD k .none).ins.n) ∧ (lnCells l)[k * 7 + 6]? = some (.int .i64 (l.getD k .none).byte) := by
  have hh := fun j hj => flat_get ILine.cells 7 (fun _ => rfl) .none l k j h hj
  exact ⟨hh 0 (by decide), hh 1 (by decide), hh 2 (by decide), hh 3 (by decide), hh 4 (by decide), hh 5 (by decide), hh 6 (by decide)⟩

/-- What is read stands in the code. -/
theorem ins_facts {code : List Int} {at_ : Nat} {i : IIns} (h : insIn code at_ = some i) : validIns i = true ∧ 1 ≤ slong i ∧ slong i ≤ 5 ∧ at_ + slong i ≤ code.length := by
  unfold insIn at h
  cases hf : formAt (code.getD at_ 0) with
  | none => rw [hf] at h; cases h
  | some f =>
    rw [hf] at h
    simp only at h
    split at h
    · rename_i hok
      simp only [Option.some.injEq] at h
      simp only [Bool.and_eq_true, decide_eq_true_eq] at hok
      obtain ⟨hlen, ht⟩ := hok
      have hm := formAt_mem hf
      have hform := takes_form hm ht
      rw [h] at hform
      have hl := long_eq hform
      have hb := longOf_bd (letters f.follows)
      have hs := (form_bounds hform).size
      rw [letters_len] at hb
      rw [hl] at hb hlen
      refine ⟨?_, by omega, by omega, hlen⟩
      rw [← some_valid, hform]
      rfl
    · cases h
/-- What readAt answers: an instruction and the place behind it. -/
def readP (code : List Int) (at_ : Nat) : Option IIns := if at_ < code.length then insIn code at_ else none
theorem readP_facts {code : List Int} {at_ : Nat} {i : IIns} (h : readP code at_ = some i) : at_ < code.length ∧ validIns i = true ∧ 1 ≤ slong i ∧ slong i ≤ 5 ∧ at_ + slong i ≤ code.length := by
  unfold readP at h
  split at h
  · rename_i hlt
    exact ⟨hlt, ins_facts h⟩
  · cases h
theorem readP_in {code : List Int} {at_ : Nat} (h : at_ < code.length) : readP code at_ = insIn code at_ := by unfold readP; rw [if_pos h]
theorem readP_out {code : List Int} {at_ : Nat} (h : ¬ at_ < code.length) : readP code at_ = none := by unfold readP; rw [if_neg h]
def nextP (code : List Int) (at_ : Nat) : Int := match readP code at_ with | some i => at_ + slong i | none => 0
/-- A line of a listing. -/
def lineP (code : List Int) (at_ : Nat) : ILine := match insIn code at_ with | some i => ⟨at_, true, i, 0⟩ | none => ⟨at_, false, insZero, code.getD at_ 0⟩
def stepP (code : List Int) (at_ : Nat) : Nat := match insIn code at_ with | some i => at_ + (slong i).toNat | none => at_ + 1
theorem stepP_some {code : List Int} {at_ : Nat} {i : IIns} (h : insIn code at_ = some i) : (at_ : Int) + slong i = (stepP code at_ : Nat) := by
  have := ins_facts h
  unfold stepP
  rw [h]
  simp only
  omega
theorem stepP_none {code : List Int} {at_ : Nat} (h : insIn code at_ = none) : stepP code at_ = at_ + 1 := by
  unfold stepP
  rw [h]
theorem stepP_bd (code : List Int) (at_ : Nat) (hat : at_ < code.length) : at_ + 1 ≤ stepP code at_ ∧ stepP code at_ ≤ code.length := by
  unfold stepP
  cases h : insIn code at_ with
  | none => simp only; omega
  | some i => have := ins_facts h; simp only; omega
/-- The listing of code from a place on. -/
def sweepP (code : List Int) (at_ : Nat) : List ILine :=
  if h : at_ < code.length then lineP code at_ :: sweepP code (max (at_ + 1) (stepP code at_)) else []
termination_by code.length - at_
decreasing_by omega
theorem sweepP_in (code : List Int) (at_ : Nat) (h : at_ < code.length) : sweepP code at_ = lineP code at_ :: sweepP code (stepP code at_) := by
  have := stepP_bd code at_ h
  rw [sweepP, dif_pos h, Nat.max_eq_right (by omega)]
theorem sweepP_out (code : List Int) (at_ : Nat) (h : ¬ at_ < code.length) : sweepP code at_ = [] := by rw [sweepP, dif_neg h]
def sweepOf (code : List Int) : List ILine := if isCode code = true then sweepP code 0 else []
end Go.Proofs.YtihhpgklpichgaaGreat.Sw
namespace Go.Proofs.YtihhpgklpichgaaGreat.Wk
open Go.RowKit Pl Ft Mm In C2 Sw

/-- The places of a table, if they are all in the code. -/
def tabP (code : List Int) (i : IIns) : Option (List Int) :=
  if i.n + 2 * i.b ≤ code.length then some ((List.range i.b.toNat).map fun k => code.getD (i.n.toNat + 2 * k) 0 + 256 * code.getD (i.n.toNat + 2 * k + 1) 0) else none
def succs (code : List Int) (i : IIns) (next : Int) : List Int :=
  if i.op = 0 ∨ i.op = 1 then [] else if i.op = 27 then [i.n] else if i.op = 28 then [i.n, next] else if i.op = 29 then [next, i.n] else if i.op = 30 then (tabP code i).getD [] ++ [next] else [next]
theorem succs_len (code : List Int) (i : IIns) (next : Int) (hb : i.b ≤ 8) : (succs code i next).length ≤ 9 := by
  unfold succs
  repeat' split
  all_goals (try simp)
  unfold tabP
  split
  · simp; omega
  · simp
theorem code_nn {code : List Int} (h : code.all isByte = true) (k : Nat) : 0 ≤ code.getD k 0 := by
  by_cases hk : k < code.length
  · have := List.all_eq_true.1 h (code.getD k 0) (by simp [hk])
    exact (byte_iff.1 this).1
  · rw [List.getD_eq_getElem?_getD, List.getElem?_eq_none (by omega)]; simp
theorem succs_nn {code : List Int} (h : code.all isByte = true) {i : IIns} (hn : i.op = 27 ∨ i.op = 28 ∨ i.op = 29 → 0 ≤ i.n) {next : Int} (hx : 0 ≤ next) : ∀ q ∈ succs code i next, 0 ≤ q := by
  intro q hq
  unfold succs at hq
  split at hq
  · cases hq
  split at hq
  · simp at hq; subst hq; exact hn (by omega)
  split at hq
  · simp at hq; rcases hq with rfl | rfl; exact hn (by omega); exact hx
  split at hq
  · simp at hq; rcases hq with rfl | rfl; exact hx; exact hn (by omega)
  split at hq
  · rw [List.mem_append] at hq
    rcases hq with hq | hq
    · unfold tabP at hq
      split at hq
      · simp only [Option.getD_some, List.mem_map, List.mem_range] at hq
        obtain ⟨k, _, rfl⟩ := hq
        have h1 := code_nn h (i.n.toNat + 2 * k)
        have h2 := code_nn h (i.n.toNat + 2 * k + 1)
        omega
      · cases hq
    · simp at hq; subst hq; exact hx
  · simp at hq; subst hq; exact hx
/-- The places that are reached from one on. -/
inductive Rch (code : List Int) (e : Nat) : Nat → Prop
  | start : Rch code e e
  | step (p : Nat) (i : IIns) (q : Nat) (h : Rch code e p) (hr : readP code p = some i) (hq : (q : Int) ∈ succs code i (p + slong i)) : Rch code e q
def badTab (code : List Int) (i : IIns) : Bool := i.op == 30 && (tabP code i).isNone
def Bad (code : List Int) (p : Nat) : Prop := match readP code p with | none => True | some i => badTab code i = true
/-- A worklist on its way: what was met, what lies ahead, whether anything was lost. -/
structure WInv (code : List Int) (e : Nat) (met : Nat → Bool) (ahead : List Int) (lost : Bool) : Prop where
  nn : ∀ q ∈ ahead, 0 ≤ q
  ra : ∀ q : Nat, (q : Int) ∈ ahead → Rch code e q
  rm : ∀ p, met p = true → Rch code e p ∧ ∃ i, readP code p = some i ∧ (badTab code i = true → lost = true)
  cl : ∀ p i, met p = true → readP code p = some i → ∀ q : Nat, (q : Int) ∈ succs code i (p + slong i) → met q = true ∨ (q : Int) ∈ ahead ∨ (readP code q = none ∧ lost = true)
  st : met e = true ∨ (e : Int) ∈ ahead ∨ (readP code e = none ∧ lost = true)
  lo : lost = true → ∃ p, Rch code e p ∧ Bad code p
theorem WInv.begin (code : List Int) (e : Nat) : WInv code e (fun _ => false) [(e : Int)] false where
  nn q hq := by simp at hq; omega
  ra q hq := by
    obtain rfl : q = e := by simp at hq; omega
    exact .start
  rm p h := by cases h
  cl p i h := by cases h
  st := .inr (.inl (by simp))
  lo h := by cases h
section
variable {code : List Int} {e : Nat} {met : Nat → Bool} {ahead rest : List Int} {lost : Bool} {a : Nat}
/-- What was met already is passed by. -/
theorem WInv.again (h : WInv code e met ahead lost) (hm : ∀ q, q ∈ ahead ↔ q = (a : Int) ∨ q ∈ rest) (ha : met a = true) : WInv code e met rest lost where
  nn q hq := h.nn q ((hm q).2 (.inr hq))
  ra q hq := h.ra q ((hm q).2 (.inr hq))
  rm := h.rm
  cl p i hp hr q hq := by
    rcases h.cl p i hp hr q hq with h1 | h1 | h1
    · exact .inl h1
    · rcases (hm q).1 h1 with h2 | h2
      · obtain rfl : q = a := by omega
        exact .inl ha
      · exact .inr (.inl h2)
    · exact .inr (.inr h1)
  st := by
    rcases h.st with h1 | h1 | h1
    · exact .inl h1
    · rcases (hm e).1 h1 with h2 | h2
      · obtain rfl : e = a := by omega
        exact .inl ha
      · exact .inr (.inl h2)
    · exact .inr (.inr h1)
  lo := h.lo
/-- Where no instruction stands something is lost. -/
theorem WInv.loose (h : WInv code e met ahead lost) (hm : ∀ q, q ∈ ahead ↔ q = (a : Int) ∨ q ∈ rest) (ha : readP code a = none) : WInv code e met rest true where
  nn q hq := h.nn q ((hm q).2 (.inr hq))
  ra q hq := h.ra q ((hm q).2 (.inr hq))
  rm p hp := ⟨(h.rm p hp).1, by obtain ⟨i, hi, _⟩ := (h.rm p hp).2; exact ⟨i, hi, fun _ => rfl⟩⟩
  cl p i hp hr q hq := by
    rcases h.cl p i hp hr q hq with h1 | h1 | h1
    · exact .inl h1
    · rcases (hm q).1 h1 with h2 | h2
      · obtain rfl : q = a := by omega
        exact .inr (.inr ⟨ha, rfl⟩)
      · exact .inr (.inl h2)
    · exact .inr (.inr ⟨h1.1, rfl⟩)
  st := by
    rcases h.st with h1 | h1 | h1
    · exact .inl h1
    · rcases (hm e).1 h1 with h2 | h2
      · obtain rfl : e = a := by omega
        exact .inr (.inr ⟨ha, rfl⟩)
      · exact .inr (.inl h2)
    · exact .inr (.inr ⟨h1.1, rfl⟩)
  lo _ := ⟨a, h.ra a ((hm a).2 (.inl rfl)), by unfold Bad; rw [ha]; trivial⟩
/-- What is met leads on. -/
theorem WInv.meet {i : IIns} {met' : Nat → Bool} {rest' : List Int} {lost' : Bool} (h : WInv code e met ahead lost) (hm : ∀ q, q ∈ ahead ↔ q = (a : Int) ∨ q ∈ rest) (ha : readP code a = some i) (hnn : ∀ q ∈ succs code i (a + slong i), 0 ≤ q)
    (hmet : ∀ q, met' q = (met q || q == a)) (hrest : ∀ q, q ∈ rest' ↔ q ∈ rest ∨ q ∈ succs code i (a + slong i)) (hlost : lost' = (lost || badTab code i)) : WInv code e met' rest' lost' where
  nn q hq := by
    rcases (hrest q).1 hq with h1 | h1
    · exact h.nn q ((hm q).2 (.inr h1))
    · exact hnn q h1
  ra q hq := by
    rcases (hrest q).1 hq with h1 | h1
    · exact h.ra q ((hm q).2 (.inr h1))
    · exact .step a i q (h.ra a ((hm a).2 (.inl rfl))) ha h1
  rm p hp := by
    rw [hmet] at hp
    by_cases hpa : p = a
    · subst hpa
      exact ⟨h.ra p ((hm p).2 (.inl rfl)), i, ha, fun hb => by rw [hlost, hb, Bool.or_true]⟩
    · have hp' : met p = true := by simpa [hpa] using hp
      obtain ⟨h1, j, hj, hb⟩ := h.rm p hp'
      exact ⟨h1, j, hj, fun h2 => by rw [hlost, hb h2, Bool.true_or]⟩
  cl p j hp hr q hq := by
    rw [hmet] at hp
    by_cases hpa : p = a
    · subst hpa
      rw [ha] at hr
      obtain rfl := Option.some.inj hr
      exact .inr (.inl ((hrest q).2 (.inr hq)))
    · have hp' : met p = true := by simpa [hpa] using hp
      rcases h.cl p j hp' hr q hq with h1 | h1 | h1
      · exact .inl (by rw [hmet, h1, Bool.true_or])
      · rcases (hm q).1 h1 with h2 | h2
        · obtain rfl : q = a := by omega
          exact .inl (by rw [hmet]; simp)
        · exact .inr (.inl ((hrest q).2 (.inl h2)))
      · exact .inr (.inr ⟨h1.1, by rw [hlost, h1.2, Bool.true_or]⟩)
  st := by
    rcases h.st with h1 | h1 | h1
    · exact .inl (by rw [hmet, h1, Bool.true_or])
    · rcases (hm e).1 h1 with h2 | h2
      · obtain rfl : e = a := by omega
        exact .inl (by rw [hmet]; simp)
      · exact .inr (.inl ((hrest e).2 (.inl h2)))
    · exact .inr (.inr ⟨h1.1, by rw [hlost, h1.2, Bool.true_or]⟩)
  lo hl := by
    rw [hlost, Bool.or_eq_true] at hl
    rcases hl with hl | hl
    · exact h.lo hl
    · exact ⟨a, h.ra a ((hm a).2 (.inl rfl)), by unfold Bad; rw [ha]; exact hl⟩
/-- At the end what was met is what is reached, and what was lost is told. -/
theorem WInv.done (h : WInv code e met [] lost) : (∀ p, met p = true ↔ (Rch code e p ∧ (readP code p).isSome = true)) ∧ (lost = true ↔ ∃ p, Rch code e p ∧ Bad code p) := by
  have key : ∀ p, Rch code e p → met p = true ∨ (readP code p = none ∧ lost = true) := by
    intro p hp
    induction hp with
    | start =>
      rcases h.st with h1 | h1 | h1
      · exact .inl h1
      · cases h1
      · exact .inr h1
    | step p i q hp hr hq ih =>
      rcases ih with h1 | h1
      · rcases h.cl p i h1 hr q hq with h2 | h2 | h2
        · exact .inl h2
        · cases h2
        · exact .inr h2
      · rw [hr] at h1
        cases h1.1
  refine ⟨fun p => ⟨fun hp => ?_, fun hp => ?_⟩, fun hl => h.lo hl, fun hl => ?_⟩
  · obtain ⟨h1, i, hi, _⟩ := h.rm p hp
    exact ⟨h1, by rw [hi]; rfl⟩
  · rcases key p hp.1 with h1 | h1
    · exact h1
    · rw [h1.1] at hp
      cases hp.2
  · obtain ⟨p, hp, hb⟩ := hl
    rcases key p hp with h1 | h1
    · obtain ⟨_, i, hi, hl⟩ := h.rm p h1
      unfold Bad at hb
      rw [hi] at hb
      exact hl hb
    · exact h1.2
end
noncomputable def cdec (p : Prop) : Bool := @decide p (Classical.propDecidable p)
theorem cdec_iff {p : Prop} : cdec p = true ↔ p := @decide_eq_true_iff p (Classical.propDecidable p)
theorem bool_iff {a b : Bool} (h : a = true ↔ b = true) : a = b := by
  cases a <;> cases b <;> simp_all
noncomputable def metOf (code : List Int) (e : Nat) (p : Nat) : Bool := cdec (Rch code e p ∧ (readP code p).isSome = true)
/-- The places that are reached and where an instruction stands, ascending. -/
noncomputable def reach (code : List Int) (e : Nat) : List Nat := (List.range code.length).filter (metOf code e)
noncomputable def lostOf (code : List Int) (e : Nat) : Bool := cdec (∃ p, Rch code e p ∧ Bad code p)
theorem WInv.met_eq {code : List Int} {e : Nat} {met : Nat → Bool} {lost : Bool} (h : WInv code e met [] lost) : met = metOf code e := by
  funext p
  exact bool_iff ((h.done.1 p).trans cdec_iff.symm)
theorem WInv.lost_eq {code : List Int} {e : Nat} {met : Nat → Bool} {lost : Bool} (h : WInv code e met [] lost) : lost = lostOf code e := bool_iff (h.done.2.trans cdec_iff.symm)
theorem metOf_lt {code : List Int} {e p : Nat} (h : metOf code e p = true) : p < code.length := by
  obtain ⟨i, hi⟩ := Option.isSome_iff_exists.1 (cdec_iff.1 h).2
  exact (readP_facts hi).1
theorem mem_reach {code : List Int} {e p : Nat} : p ∈ reach code e ↔ metOf code e p = true := by
  unfold reach
  rw [List.mem_filter, List.mem_range]
  exact ⟨fun h => h.2, fun h => ⟨metOf_lt h, h⟩⟩
end Go.Proofs.YtihhpgklpichgaaGreat.Wk
namespace Go.Proofs.YtihhpgklpichgaaGreat.Sw
open Go.RowKit Pl Ft Mm In C2

/-- The bytes that a line tells. -/
def bytesP (l : ILine) : Option (List Int) := if l.is = true then insPut l.ins l.at_ else some [l.byte]
/-- All bytes, behind some. -/
def pmod : List ILine → List Int → Option (List Int)
  | [], out => some out
  | l :: r, out => match bytesP l with | none => none | some b => pmod r (out ++ b)
/-- All bytes, behind some, each line at its place. -/
def smod : List ILine → List Int → Option (List Int)
  | [], out => some out
  | l :: r, out => if out.length > 2000 ∨ l.at_ ≠ out.length then none else match bytesP l with | none => none | some b => smod r (out ++ b)
theorem pmod_of_smod : ∀ (l : List ILine) (out c : List Int), smod l out = some c → pmod l out = some c
  | [], out, c, h => h
  | x :: r, out, c, h => by
    unfold smod at h
    unfold pmod
    split at h
    · cases h
    · cases hb : bytesP x with
      | none => rw [hb] at h; cases h
      | some b =>
        rw [hb] at h
        exact pmod_of_smod r _ c h
/-- What a line of a listing tells are the bytes that stand there. -/
theorem bytes_line {code : List Int} (hc : code.all isByte = true) (h2 : code.length ≤ 2000) {at_ : Nat} (hat : at_ < code.length) :
    ∃ b, bytesP (lineP code at_) = some b ∧ code.take at_ ++ b = code.take (stepP code at_) := by
  unfold lineP stepP
  cases h : insIn code at_ with
  | none =>
    refine ⟨[code.getD at_ 0], rfl, ?_⟩
    simp only
    rw [List.take_succ_eq_append_getElem hat]
    simp [hat]
  | some i =>
    obtain ⟨l, hp, hl, hle⟩ := read_put hc hat (by omega) h
    have hv := ins_facts h
    refine ⟨l, by unfold bytesP; simpa using hp, ?_⟩
    have hlong : (l.length : Int) = slong i := by
      unfold insPut at hp
      cases hf : formOf i with
      | none => rw [hf] at hp; cases hp
      | some f =>
        rw [hf] at hp
        simp only at hp
        split at hp
        · split at hp
          · simp only [Option.some.injEq] at hp
            have hq := putList_len (letters f.follows) i ((at_ : Int) + longOf (letters f.follows))
            rw [← hp, ← long_eq hf]
            simp only [List.length_cons]
            omega
          · cases hp
        · cases hp
    have e : (slong i).toNat = l.length := by omega
    simp only
    rw [e, List.take_add, ← hl]
theorem smod_sweep {code : List Int} (hc : code.all isByte = true) (h2 : code.length ≤ 2000) : ∀ n at_, code.length - at_ ≤ n → at_ ≤ code.length → smod (sweepP code at_) (code.take at_) = some code := by
  intro n
  induction n with
  | zero =>
    intro at_ h hle
    rw [sweepP_out code at_ (by omega), List.take_of_length_le (by omega)]
    rfl
  | succ n ih =>
    intro at_ h hle
    by_cases hlt : at_ < code.length
    · obtain ⟨b, hb, hbt⟩ := bytes_line hc h2 hlt
      have hst := stepP_bd code at_ hlt
      have hl : (code.take at_).length = at_ := by rw [List.length_take]; omega
      have ha : (lineP code at_).at_ = at_ := by
        unfold lineP
        split <;> rfl
      rw [sweepP_in code at_ hlt]
      unfold smod
      rw [if_neg (by rw [hl, ha]; omega), hb]
      simp only
      rw [hbt]
      exact ih (stepP code at_) (by omega) hst.2
    · rw [sweepP_out code at_ (by omega), List.take_of_length_le (by omega)]
      rfl
theorem sweepP_len (code : List Int) : ∀ n at_, code.length - at_ ≤ n → (sweepP code at_).length ≤ n := by
  intro n
  induction n with
  | zero =>
    intro at_ h
    rw [sweepP_out code at_ (by omega)]
    simp
  | succ n ih =>
    intro at_ h
    by_cases hlt : at_ < code.length
    · rw [sweepP_in code at_ hlt, List.length_cons]
      have := stepP_bd code at_ hlt
      have := ih (stepP code at_) (by omega)
      omega
    · rw [sweepP_out code at_ hlt]
      simp
theorem isCode_bd {code : List Int} (h : isCode code = true) : code.length ≤ 2000 ∧ code.all isByte = true := by simpa [isCode] using h
theorem sweepOf_len (code : List Int) : (sweepOf code).length ≤ 2000 := by
  unfold sweepOf
  split
  · rename_i h
    have := (isCode_bd h).1
    exact sweepP_len code 2000 0 (by omega)
  · simp
/-- What SweepBytes answers. -/
def sweepBytes (l : List ILine) : Option (List Int) :=
  if l.length > 2000 then none else match pmod l [] with | none => none | some c => if sweepOf c = l then some c else none
/-- What the model's answers. -/
def ssweepBytes (l : List ILine) : Option (List Int) :=
  match smod l [] with | none => none | some c => if isCode c = true ∧ sweepP c 0 = l then some c else none
theorem sweepBytes_eq (l : List ILine) : sweepBytes l = ssweepBytes l := by
  have h1 : ∀ c, ssweepBytes l = some c → sweepBytes l = some c := by
    intro c h
    unfold ssweepBytes at h
    cases hm : smod l [] with
    | none => rw [hm] at h; cases h
    | some d =>
      rw [hm] at h
      simp only at h
      split at h
      · rename_i hok
        obtain ⟨hc, hs⟩ := hok
        obtain rfl := Option.some.inj h
        have hso : sweepOf d = l := by unfold sweepOf; rw [if_pos hc]; exact hs
        have hl := sweepOf_len d
        rw [hso] at hl
        unfold sweepBytes
        rw [if_neg (by omega), pmod_of_smod l [] d hm]
        simp only
        rw [if_pos hso]
      · cases h
  have h2 : ∀ c, sweepBytes l = some c → ssweepBytes l = some c := by
    intro c h
    unfold sweepBytes at h
    split at h
    · cases h
    · cases hm : pmod l [] with
      | none => rw [hm] at h; cases h
      | some d =>
        rw [hm] at h
        simp only at h
        split at h
        · rename_i hs
          obtain rfl := Option.some.inj h
          by_cases hc : isCode d = true
          · have hb := isCode_bd hc
            have hs2 : sweepP d 0 = l := by unfold sweepOf at hs; rwa [if_pos hc] at hs
            have hk := smod_sweep hb.2 hb.1 d.length 0 (by omega) (Nat.zero_le _)
            rw [List.take_zero, hs2] at hk
            unfold ssweepBytes
            rw [hk]
            simp only
            rw [if_pos ⟨hc, hs2⟩]
          · exfalso
            have hl : l = [] := by unfold sweepOf at hs; rw [if_neg hc] at hs; exact hs.symm
            rw [hl] at hm
            have : d = [] := (Option.some.inj hm).symm
            rw [this] at hc
            exact hc rfl
        · cases h
  cases hx : sweepBytes l with
  | some c => rw [h2 c hx]
  | none =>
    cases hy : ssweepBytes l with
    | some c => rw [h1 c hy] at hx; cases hx
    | none => rfl
/-- The bytes of code's listing are the code. -/
theorem sweepBytes_sweep {code : List Int} (h : sweepOf code ≠ []) : sweepBytes (sweepOf code) = some code := by
  have hc : isCode code = true := by
    cases hx : isCode code with
    | true => rfl
    | false => exact absurd (by unfold sweepOf; rw [hx]; rfl) h
  have hb := isCode_bd hc
  have hs : sweepOf code = sweepP code 0 := by unfold sweepOf; rw [if_pos hc]
  have hk := smod_sweep hb.2 hb.1 code.length 0 (by omega) (Nat.zero_le _)
  rw [List.take_zero, ← hs] at hk
  have hl := sweepOf_len code
  unfold sweepBytes
  rw [if_neg (by omega), pmod_of_smod _ _ _ hk]
  simp
theorem sweepBytes_some {l : List ILine} {c : List Int} (h : sweepBytes l = some c) : sweepOf c = l := by
  unfold sweepBytes at h
  split at h
  · cases h
  · split at h
    · cases h
    · split at h
      · rename_i hs
        obtain rfl := Option.some.inj h
        exact hs
      · cases h
theorem sweepBytes_len (l : List ILine) : ((sweepBytes l).getD []).length ≤ 2000 := by
  unfold sweepBytes
  split
  · simp
  · split
    · simp
    · rename_i c _
      split
      · rename_i hs
        simp only [Option.getD_some]
        by_cases hc : isCode c = true
        · exact (isCode_bd hc).1
        · rename_i hl hm
          have hl0 : l = [] := by unfold sweepOf at hs; rw [if_neg hc] at hs; exact hs.symm
          rw [hl0] at hm
          have : c = [] := (Option.some.inj hm).symm
          rw [this]
          simp
      · simp
end Go.Proofs.YtihhpgklpichgaaGreat.Sw
