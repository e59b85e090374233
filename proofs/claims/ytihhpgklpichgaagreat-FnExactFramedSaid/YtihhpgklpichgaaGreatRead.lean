/- Reading an instruction: what the program's reader and the model's answer, and that both answer the same. No call is spoken of here. -/
import Derived.Test.YtihhpgklpichgaaGreatC2k
import Derived.Test.YtihhpgklpichgaaGreatFormTab
set_option linter.unusedSimpArgs false
set_option linter.unusedVariables false
namespace Go.Proofs.YtihhpgklpichgaaGreat.C2
open Go.RowKit Pl Ft Mm In

/-- One part read: the instruction so far and the place behind it. -/
def rstep (code : List Int) (next : Int) (s : IIns × Nat) (c : Nat) : IIns × Nat :=
  (letterWith c s.1 (numIn ((code.drop s.2).take (letterLong c).toNat)) next, s.2 + (letterLong c).toNat)
def rfold (code : List Int) (next : Int) (i : IIns) (p : Nat) (l : List Nat) : IIns × Nat := l.foldl (rstep code next) (i, p)
theorem rfold_succ (code : List Int) (next : Int) (i : IIns) (p : Nat) (l : List Nat) (k : Nat) (h : k < l.length) :
    rfold code next i p (l.take (k + 1)) = rstep code next (rfold code next i p (l.take k)) l[k] := by
  unfold rfold
  rw [List.take_succ_eq_append_getElem h, List.foldl_append]
  rfl
theorem letterLong_nat (c : Nat) : ((letterLong c).toNat : Int) = letterLong c := by unfold letterLong; split <;> rfl
theorem rfold_pos (code : List Int) (next : Int) (l : List Nat) : ∀ (i : IIns) (p : Nat), ((rfold code next i p l).2 : Int) + 1 = p + longOf l := by
  induction l with
  | nil => intro i p; simp [rfold, longOf]
  | cons c l ih =>
    intro i p
    have h := ih (rstep code next (i, p) c).1 (rstep code next (i, p) c).2
    have e : rfold code next i p (c :: l) = rfold code next (rstep code next (i, p) c).1 (rstep code next (i, p) c).2 l := rfl
    have e2 : (rstep code next (i, p) c).2 = p + (letterLong c).toNat := rfl
    have hl := letterLong_nat c
    rw [e, h, e2]
    simp only [longOf, List.map_cons, List.sum_cons]
    omega
theorem letterWith_op (c : Nat) (i : IIns) (x y : Int) : (letterWith c i x y).op = i.op := by
  unfold letterWith
  (repeat' split) <;> rfl
theorem letterWith_a (c : Nat) (i : IIns) (x y : Int) (h : c ≠ 114) : (letterWith c i x y).a = i.a := by
  unfold letterWith
  rw [if_neg h]
  (repeat' split) <;> rfl
theorem rfold_op (code : List Int) (next : Int) (l : List Nat) : ∀ (i : IIns) (p : Nat), (rfold code next i p l).1.op = i.op := by
  induction l with
  | nil => intro i p; rfl
  | cons c l ih =>
    intro i p
    have e : rfold code next i p (c :: l) = rfold code next (rstep code next (i, p) c).1 (rstep code next (i, p) c).2 l := rfl
    rw [e, ih]
    exact letterWith_op _ _ _ _
theorem rfold_a (code : List Int) (next : Int) (l : List Nat) : ∀ (i : IIns) (p : Nat), (∀ c ∈ l, c ≠ 114) → (rfold code next i p l).1.a = i.a := by
  induction l with
  | nil => intro i p _; rfl
  | cons c l ih =>
    intro i p h
    have e : rfold code next i p (c :: l) = rfold code next (rstep code next (i, p) c).1 (rstep code next (i, p) c).2 l := rfl
    rw [e, ih _ _ (fun d hd => h d (List.mem_cons_of_mem _ hd))]
    exact letterWith_a _ _ _ _ (h c (List.mem_cons_self ..))
/-- What insIn answers. -/
def insRd (code : List Int) (at_ : Nat) (f : IForm) : IIns := (rfold code (at_ + longOf (letters f.follows)) (begunIns f (code.getD at_ 0)) (at_ + 1) (letters f.follows)).1
def insIn (code : List Int) (at_ : Nat) : Option IIns :=
  match formAt (code.getD at_ 0) with
  | none => none
  | some f => if (decide (at_ + longOf (letters f.follows) ≤ code.length) && takes f (insRd code at_ f)) = true then some (insRd code at_ f) else none
/-- What the model's opened answers. -/
def smore (f : SForm) : Int := if f.plus = 97 then f.a else if f.plus = 98 then f.b else 0
def shit (x : Int) (k : Nat) : Bool := inRange x (stab.getD k .none).first ((stab.getD k .none).first + smore (stab.getD k .none)) || ((k == 27 || k == 28) && inRange x ((stab.getD k .none).first + 8) ((stab.getD k .none).first + 8 + smore (stab.getD k .none)))
def sopened (x : Int) : Option Nat := (List.range 31).find? (shit x)
def sopenIns (k : Nat) (more : Int) : IIns := if 8 ≤ more then ⟨k, 1, more - 8, 0⟩ else if (stab.getD k .none).plus = 97 then ⟨k, more, 0, 0⟩ else if (stab.getD k .none).plus = 98 then ⟨k, 0, more, 0⟩ else ⟨k, 0, 0, 0⟩
def sletters (k : Nat) (more : Int) : List Nat := if 8 ≤ more then [119] else letters (stab.getD k .none).rest
def sreadIns (code : List Int) (at_ : Nat) (k : Nat) : IIns :=
  (rfold code (at_ + slong (sopenIns k (code.getD at_ 0 - (stab.getD k .none).first))) (sopenIns k (code.getD at_ 0 - (stab.getD k .none).first)) (at_ + 1) (sletters k (code.getD at_ 0 - (stab.getD k .none).first))).1
def sread (code : List Int) (at_ : Nat) : Option IIns :=
  match sopened (code.getD at_ 0) with
  | none => none
  | some k => if (decide (at_ + slong (sopenIns k (code.getD at_ 0 - (stab.getD k .none).first)) ≤ code.length) && validIns (sreadIns code at_ k)) = true then some (sreadIns code at_ k) else none
/-- For each first byte both tables tell the same. -/
def agree (x : Int) : Bool :=
  match formAt x, sopened x with
  | none, none => true
  | some f, some k => decide (begunIns f x = sopenIns k (x - (stab.getD k .none).first)) && decide (letters f.follows = sletters k (x - (stab.getD k .none).first)) && decide (longOf (letters f.follows) = slong (sopenIns k (x - (stab.getD k .none).first)))
  | _, _ => false
theorem agree_all : ∀ n, n < 256 → agree (n : Nat) = true := by decide +kernel
theorem begunIns_op (f : IForm) (x : Int) : (begunIns f x).op = f.op := by
  unfold begunIns
  (repeat' split) <;> rfl
/-- Rows of one kind: the same row, or rows of jumps, told apart by A. -/
def alone (j k : Nat) : Bool := !((tab.getD j .none).op == (tab.getD k .none).op) || j == k || (decide (∀ c ∈ letters (tab.getD j .none).follows, c ≠ 114) && !((tab.getD j .none).added == 1) && !(decide (lo (tab.getD k .none).a ≤ lo (tab.getD j .none).a) && decide (lo (tab.getD j .none).a ≤ hi (tab.getD k .none).a)))
theorem alone_all : ∀ j, j < 33 → ∀ k, k < 33 → alone j k = true := by decide +kernel
theorem tab_at {f : IForm} (h : f ∈ tab) : ∃ k, k < 33 ∧ tab.getD k .none = f := by
  obtain ⟨k, hk, e⟩ := List.mem_iff_getElem.1 h
  refine ⟨k, by rw [tab_len] at hk; exact hk, ?_⟩
  rw [List.getD_eq_getElem?_getD, List.getElem?_eq_getElem hk]
  exact e
theorem formAt_mem {x : Int} {f : IForm} (h : formAt x = some f) : f ∈ tab := List.mem_of_find?_eq_some h
theorem takes_valid (code : List Int) (at_ : Nat) (f : IForm) (hf : f ∈ tab) : takes f (insRd code at_ f) = validIns (insRd code at_ f) := by
  rw [← some_valid]
  have hop : (insRd code at_ f).op = f.op := by unfold insRd; rw [rfold_op, begunIns_op]
  cases hg : formOf (insRd code at_ f) with
  | none =>
    have := List.find?_eq_none.1 hg f hf
    simpa using this
  | some g =>
    obtain ⟨hm, ht⟩ := formOf_mem hg
    obtain ⟨j, hj, ej⟩ := tab_at hf
    obtain ⟨k, hk, ek⟩ := tab_at hm
    have hal := alone_all j hj k hk
    unfold alone at hal
    rw [ej, ek] at hal
    have ht' := takes_iff.1 ht
    have e1 : (f.op == g.op) = true := by rw [beq_iff_eq, ← hop]; exact ht'.1
    rw [e1] at hal
    simp only [Bool.not_true, Bool.false_or, Bool.or_eq_true, beq_iff_eq, Bool.and_eq_true, Bool.not_eq_true', beq_eq_false_iff_ne, decide_eq_true_eq] at hal
    rcases hal with rfl | ⟨⟨h1, h2⟩, h3⟩
    · have efg : f = g := ej.symm.trans ek
      rw [← efg] at ht
      rw [ht]; rfl
    · exfalso
      have ha : (insRd code at_ f).a = lo f.a := by
        unfold insRd
        rw [rfold_a _ _ _ _ _ h1]
        unfold begunIns
        rw [if_neg h2]
        split <;> rfl
      rw [ha] at ht'
      rw [decide_eq_true ht'.2.1.1, decide_eq_true ht'.2.1.2] at h3
      cases h3
theorem insIn_eq (code : List Int) (at_ : Nat) (h0 : 0 ≤ code.getD at_ 0) (h1 : code.getD at_ 0 ≤ 255) : insIn code at_ = sread code at_ := by
  obtain ⟨n, hn⟩ := Int.eq_ofNat_of_zero_le h0
  have ha := agree_all n (by omega)
  rw [← hn] at ha
  unfold insIn sread
  unfold agree at ha
  cases hf : formAt (code.getD at_ 0) with
  | none =>
    rw [hf] at ha
    cases hs : sopened (code.getD at_ 0) with
    | none => rfl
    | some k => rw [hs] at ha; cases ha
  | some f =>
    rw [hf] at ha
    cases hs : sopened (code.getD at_ 0) with
    | none => rw [hs] at ha; cases ha
    | some k =>
      rw [hs] at ha
      simp only [Bool.and_eq_true, decide_eq_true_eq] at ha
      obtain ⟨⟨e1, e2⟩, e3⟩ := ha
      have e4 : sreadIns code at_ k = insRd code at_ f := by
        unfold sreadIns insRd
        rw [← e3, ← e1, ← e2]
      simp only
      rw [e4, ← e3, takes_valid code at_ f (formAt_mem hf)]
/-- What InsAt answers. -/
def insAt (code : List Int) (at_ : Int) : Option IIns := if (isCode code && (decide (0 ≤ at_) && decide (at_ < code.length))) = true then insIn code at_.toNat else none
def sinsAt (code : List Int) (at_ : Int) : Option IIns := if (isCode code && (decide (0 ≤ at_) && decide (at_ < code.length))) = true then sread code at_.toNat else none
theorem code_byte {code : List Int} (h : isCode code = true) (k : Nat) (hk : k < code.length) : 0 ≤ code.getD k 0 ∧ code.getD k 0 ≤ 255 := by
  simp only [isCode, Bool.and_eq_true] at h
  have := List.all_eq_true.1 h.2 (code.getD k 0) (by simp [hk])
  simpa [isByte, inR, lo, hi] using this
theorem insAt_eq (code : List Int) (at_ : Int) : insAt code at_ = sinsAt code at_ := by
  unfold insAt sinsAt
  split
  · rename_i h
    simp only [Bool.and_eq_true, decide_eq_true_eq] at h
    have hb := code_byte h.1 at_.toNat (by omega)
    exact insIn_eq code at_.toNat hb.1 hb.2
  · rfl
end Go.Proofs.YtihhpgklpichgaaGreat.C2
