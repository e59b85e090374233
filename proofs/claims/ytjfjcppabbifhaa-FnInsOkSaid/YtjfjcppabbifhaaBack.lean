/- What was put is read again. No call is spoken of here. -/
import Derived.Test.YtjfjcppabbifhaaRead
set_option linter.unusedSimpArgs false
set_option linter.unusedVariables false
namespace Go.Proofs.Ytjfjcppabbifhaa.C2
open Go.RowKit Pl Ft Mm In

def addRange (f : IForm) : Int := if f.added = 1 then f.a else if f.added = 2 then f.b else 0
def onlyFirst (k v : Nat) : Bool := !(inR (addRange (tab.getD k .none)) v) || ((List.range k).all (fun j => !(begunOk (tab.getD j .none) ((tab.getD k .none).first + v))) && begunOk (tab.getD k .none) ((tab.getD k .none).first + v))
theorem onlyFirst_all : ∀ k, k < 33 → ∀ v, v < 9 → onlyFirst k v = true := by decide +kernel
def addOf (f : IForm) (i : IIns) : Int := if f.added = 1 then i.a else if f.added = 2 then i.b else 0
theorem firstByte_eq (f : IForm) (i : IIns) : firstByte f i = f.first + addOf f i := by
  unfold firstByte addOf
  (repeat' split) <;> omega
theorem add_bd : ∀ k, k < 33 → 0 ≤ lo (addRange (tab.getD k .none)) ∧ hi (addRange (tab.getD k .none)) < 9 := by decide +kernel
theorem formAt_first {f : IForm} {i : IIns} (hf : f ∈ tab) (ht : takes f i = true) : formAt (firstByte f i) = some f := by
  obtain ⟨k, hk, ek⟩ := tab_at hf
  have ht' := takes_iff.1 ht
  have hr : inR (addRange f) (addOf f i) = true := by
    unfold addRange addOf
    by_cases h1 : f.added = 1
    · rw [if_pos h1, if_pos h1]; simp [inR, ht'.2.1.1, ht'.2.1.2]
    · rw [if_neg h1, if_neg h1]
      by_cases h2 : f.added = 2
      · rw [if_pos h2, if_pos h2]; simp [inR, ht'.2.2.1.1, ht'.2.2.1.2]
      · rw [if_neg h2, if_neg h2]; decide
  have hb := add_bd k hk
  rw [ek] at hb
  have hr2 : lo (addRange f) ≤ addOf f i ∧ addOf f i ≤ hi (addRange f) := by simpa [inR] using hr
  obtain ⟨v, hv⟩ := Int.eq_ofNat_of_zero_le (show 0 ≤ addOf f i by omega)
  have ho := onlyFirst_all k hk v (by omega)
  unfold onlyFirst at ho
  rw [ek, ← hv, hr] at ho
  simp only [Bool.not_true, Bool.false_or, Bool.and_eq_true, List.all_eq_true, List.mem_range, Bool.not_eq_true'] at ho
  rw [firstByte_eq]
  have := find_at (begunOk · (f.first + addOf f i)) .none tab k (by rw [tab_len]; exact hk) ho.1 (by rw [ek]; exact ho.2)
  rw [ek] at this
  exact this
theorem begun_first (f : IForm) (i : IIns) : begunIns f (firstByte f i) = ⟨f.op, if f.added = 1 then i.a else lo f.a, if f.added = 2 then i.b else 0, 0⟩ := by
  rw [firstByte_eq]
  unfold begunIns addOf
  by_cases h1 : f.added = 1
  · have h2 : ¬ f.added = 2 := by omega
    have e : f.first + i.a - f.first = i.a := by omega
    simp only [h1, if_true, e]
    rfl
  · by_cases h2 : f.added = 2
    · have e : f.first + i.b - f.first = i.b := by omega
      simp [h2, e]
    · simp only [h1, h2, if_false]
/-- What is read of the bytes of a letter. -/
def backNum (c : Nat) (i : IIns) (next : Int) : Int := if c = 119 then letterNum c i next % 65536 else letterNum c i next % 256
theorem back_num (c : Nat) (i : IIns) (next : Int) : numIn (letterPut i next c) = backNum c i next := by
  unfold letterPut backNum
  by_cases h : c = 119
  · have e : (letterLong c).toNat = 2 := by rw [h]; rfl
    rw [if_pos h, e, bytes2]
    simp only [numIn]
    omega
  · have e : (letterLong c).toNat = 1 := by unfold letterLong; rw [if_neg h]; rfl
    rw [if_neg h, e, bytes1]
    simp only [numIn]
    omega
theorem rfold_back (i : IIns) (next : Int) : ∀ (l : List Nat) (A C : List Int) (j : IIns),
    (rfold (A ++ putList l i next ++ C) next j A.length l).1 = l.foldl (fun j c => letterWith c j (backNum c i next) next) j := by
  intro l
  induction l with
  | nil => intro A C j; rfl
  | cons c l ih =>
    intro A C j
    have hl : (letterPut i next c).length = (letterLong c).toNat := by rw [letterPut, bytesOf_len]
    have hcut : ((A ++ putList (c :: l) i next ++ C).drop A.length).take (letterLong c).toNat = letterPut i next c := by
      have e : A ++ putList (c :: l) i next ++ C = A ++ (letterPut i next c ++ (putList l i next ++ C)) := by simp [putList]
      rw [e, List.drop_left, ← hl, List.take_left]
    have e1 : rfold (A ++ putList (c :: l) i next ++ C) next j A.length (c :: l) = rfold (A ++ putList (c :: l) i next ++ C) next (letterWith c j (backNum c i next) next) (A.length + (letterLong c).toNat) l := by
      show rfold (A ++ putList (c :: l) i next ++ C) next (rstep (A ++ putList (c :: l) i next ++ C) next (j, A.length) c).1 (rstep (A ++ putList (c :: l) i next ++ C) next (j, A.length) c).2 l = _
      unfold rstep
      simp only
      rw [hcut, back_num]
    have e2 : A ++ putList (c :: l) i next ++ C = (A ++ letterPut i next c) ++ putList l i next ++ C := by simp [putList]
    have e3 : A.length + (letterLong c).toNat = (A ++ letterPut i next c).length := by rw [List.length_append, hl]
    rw [e1, e2, e3, ih]
    rfl
theorem fold_same {i : IIns} {f : IForm} (hf : f ∈ tab) (ht : takes f i = true) (next : Int) (hfit : ∀ c ∈ letters f.follows, letterFit c i next = true) :
    (letters f.follows).foldl (fun j c => letterWith c j (backNum c i next) next) ⟨f.op, if f.added = 1 then i.a else lo f.a, if f.added = 2 then i.b else 0, 0⟩ = i := by
  have h := takes_iff.1 ht
  clear ht
  obtain ⟨op, a, b, n⟩ := i
  have key : ∀ f ∈ tab, op = f.op → (lo f.a ≤ a ∧ a ≤ hi f.a) → (lo f.b ≤ b ∧ b ≤ hi f.b) → (lo f.n ≤ n ∧ n ≤ hi f.n) → (∀ c ∈ letters f.follows, letterFit c ⟨op, a, b, n⟩ next = true) →
      (letters f.follows).foldl (fun j c => letterWith c j (backNum c ⟨op, a, b, n⟩ next) next) ⟨f.op, if f.added = 1 then a else lo f.a, if f.added = 2 then b else 0, 0⟩ = ⟨op, a, b, n⟩ := by
    clear h hfit hf
    intro f hm
    simp only [tab, List.mem_cons, List.not_mem_nil, or_false] at hm
    rcases hm with rfl | rfl | rfl | rfl | rfl | rfl | rfl | rfl | rfl | rfl | rfl | rfl | rfl | rfl | rfl | rfl | rfl | rfl | rfl | rfl | rfl | rfl | rfl | rfl | rfl | rfl | rfl | rfl | rfl | rfl | rfl | rfl | rfl
    all_goals
      intro hop ha hb hn hfit
      simp [lo, hi] at ha hb hn
      simp [letters, letterFit, inR, lo, hi] at hfit
      simp only at hop
      subst hop
      simp [letters, letterWith, backNum, letterNum, sgn, inR, lo, hi]
      try omega
  exact key f hf h.1 h.2.1 h.2.2.1 h.2.2.2 hfit
theorem put_back {i : IIns} {at_ : Nat} {l pre : List Int} (h : insPut i at_ = some l) (hp : pre.length = at_) : insIn (pre ++ l) at_ = some i := by
  unfold insPut at h
  cases hf : formOf i with
  | none => rw [hf] at h; cases h
  | some f =>
    rw [hf] at h
    simp only at h
    split at h
    · split at h
      · rename_i _ hfit
        simp only [Option.some.injEq] at h
        obtain ⟨hm, ht⟩ := formOf_mem hf
        have hx : (pre ++ l).getD at_ 0 = firstByte f i := by rw [← h, ← hp]; simp
        have hrd : insRd (pre ++ l) at_ f = i := by
          unfold insRd
          rw [hx, begun_first]
          have e : pre ++ l = (pre ++ [firstByte f i]) ++ putList (letters f.follows) i (at_ + longOf (letters f.follows)) ++ [] := by rw [← h]; simp
          have e2 : at_ + 1 = (pre ++ [firstByte f i]).length := by simp [hp]
          rw [e, e2, rfold_back]
          exact fold_same hm ht _ (fun c hc => List.all_eq_true.1 hfit c hc)
        have hlen : (at_ : Int) + longOf (letters f.follows) ≤ (pre ++ l).length := by
          have h1 := putList_len (letters f.follows) i (at_ + longOf (letters f.follows))
          rw [← h, List.length_append, List.length_cons, hp]
          omega
        unfold insIn
        rw [hx, formAt_first hm ht]
        simp only
        rw [hrd, ht, decide_eq_true hlen]
        rfl
      · cases h
    · cases h
end Go.Proofs.Ytjfjcppabbifhaa.C2
