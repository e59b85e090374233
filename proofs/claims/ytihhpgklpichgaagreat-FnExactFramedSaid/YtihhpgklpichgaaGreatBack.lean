/- What was put is read again. No call is spoken of here · What InsAt reads of what was put behind zeros. No call is spoken of here · What is read is written as it was. No call is spoken of here. -/
import Derived.Test.YtihhpgklpichgaaGreatRead
import Derived.Test.YtihhpgklpichgaaGreatFormTab
set_option linter.unusedSimpArgs false
set_option linter.unusedVariables false
namespace Go.Proofs.YtihhpgklpichgaaGreat.C2
open Go.RowKit Pl Ft Mm In

def addRange (f : IForm) : Int := if f.added = 1 then f.a else if f.added = 2 then f.b else 0
def onlyFirst (k v : Nat) : Bool := !(inR (addRange (tab.getD k .none)) v) || ((List.range k).all (fun j => !(begunOk (tab.getD j .none) ((tab.getD k .none).first + v))) && begunOk (tab.getD k .none) ((tab.getD k .none).first + v))
theorem onlyFirst_all : ∀ k, k < 33 → ∀ v, v < 9 → onlyFirst k v = true := by decide +kernel
def addOf (f : IForm) (i : IIns) : Int := if f.added = 1 then i.a else if f.added = 2 then i.b else 0
theorem firstByte_eq (f : IForm) (i : IIns) : firstByte f i = f.first + addOf f i := by
  unfold firstByte addOf
  (repeat' split) <;> omega
theorem add_bd : ∀ k, k < 33 → 0 ≤ lo (addRange (tab.getD k .none)) ∧ hi (addRange (tab.getD k .none)) < 9 := by decide +kernel
theorem formAt_first {f : IForm} {i : IIns} (hf : f ∈ tab) (ht : takes f i = true) : formAt (firstByte f i) = some f := by
  obtain ⟨k, hk, ek⟩ := tab_at hf
  have ht' := takes_iff.1 ht
  have hr : inR (addRange f) (addOf f i) = true := by
    unfold addRange addOf
    by_cases h1 : f.added = 1
    · rw [if_pos h1, if_pos h1]; simp [inR, ht'.2.1.1, ht'.2.1.2]
    · rw [if_neg h1, if_neg h1]
      by_cases h2 : f.added = 2
      · rw [if_pos h2, if_pos h2]; simp [inR, ht'.2.2.1.1, ht'.2.2.1.2]
      · rw [if_neg h2, if_neg h2]; decide
  have hb := add_bd k hk
  rw [ek] at hb
  have hr2 : lo (addRange f) ≤ addOf f i ∧ addOf f i ≤ hi (addRange f) := by simpa [inR] using hr
  obtain ⟨v, hv⟩ := Int.eq_ofNat_of_zero_le (show 0 ≤ addOf f i by omega)
  have ho := onlyFirst_all k hk v (by omega)
  unfold onlyFirst at ho
  rw [ek, ← hv, hr] at ho
  simp only [Bool.not_true, Bool.false_or, Bool.and_eq_true, List.all_eq_true, List.mem_range, Bool.not_eq_true'] at ho
  rw [firstByte_eq]
  have := find_at (begunOk · (f.first + addOf f i)) .none tab k (by rw [tab_len]; exact hk) ho.1 (by rw [ek]; exact ho.2)
  rw [ek] at this
  exact this
theorem begun_first (f : IForm) (i : IIns) : begunIns f (firstByte f i) = ⟨f.op, if f.added = 1 then i.a else lo f.a, if f.added = 2 then i.b else 0, 0⟩ := by
  rw [firstByte_eq]
  unfold begunIns addOf
  by_cases h1 : f.added = 1
  · have h2 : ¬ f.added = 2 := by omega
    have e : f.first + i.a - f.first = i.a := by omega
    simp only [h1, if_true, e]
    rfl
  · by_cases h2 : f.added = 2
    · have e : f.first + i.b - f.first = i.b := by omega
      simp [h2, e]
    · simp only [h1, h2, if_false]
/-- What is read of the bytes of a letter. -/
def backNum (c : Nat) (i : IIns) (next : Int) : Int := if c = 119 then letterNum c i next % 65536 else letterNum c i next % 256
theorem back_num (c : Nat) (i : IIns) (next : Int) : numIn (letterPut i next c) = backNum c i next := by
  unfold letterPut backNum
  by_cases h : c = 119
  · have e : (letterLong c).toNat = 2 := by rw [h]; rfl
    rw [if_pos h, e, bytes2]
    simp only [numIn]
    omega
  · have e : (letterLong c).toNat = 1 := by unfold letterLong; rw [if_neg h]; rfl
    rw [if_neg h, e, bytes1]
    simp only [numIn]
    omega
theorem rfold_back (i : IIns) (next : Int) : ∀ (l : List Nat) (A C : List Int) (j : IIns),
    (rfold (A ++ putList l i next ++ C) next j A.length l).1 = l.foldl (fun j c => letterWith c j (backNum c i next) next) j := by
  intro l
  induction l with
  | nil => intro A C j; rfl
  | cons c l ih =>
    intro A C j
    have hl : (letterPut i next c).length = (letterLong c).toNat := by rw [letterPut, bytesOf_len]
    have hcut : ((A ++ putList (c :: l) i next ++ C).drop A.length).take (letterLong c).toNat = letterPut i next c := by
      have e : A ++ putList (c :: l) i next ++ C = A ++ (letterPut i next c ++ (putList l i next ++ C)) := by simp [putList]
      rw [e, List.drop_left, ← hl, List.take_left]
    have e1 : rfold (A ++ putList (c :: l) i next ++ C) next j A.length (c :: l) = rfold (A ++ putList (c :: l) i next ++ C) next (letterWith c j (backNum c i next) next) (A.length + (letterLong c).toNat) l := by
      show rfold (A ++ putList (c :: l) i next ++ C) next (rstep (A ++ putList (c :: l) i next ++ C) next (j, A.length) c).1 (rstep (A ++ putList (c :: l) i next ++ C) next (j, A.length) c).2 l = _
      unfold rstep
      simp only
      rw [hcut, back_num]
    have e2 : A ++ putList (c :: l) i next ++ C = (A ++ letterPut i next c) ++ putList l i next ++ C := by simp [putList]
    have e3 : A.length + (letterLong c).toNat = (A ++ letterPut i next c).length := by rw [List.length_append, hl]
    rw [e1, e2, e3, ih]
    rfl
theorem fold_same {i : IIns} {f : IForm} (hf : f ∈ tab) (ht : takes f i = true) (next : Int) (hfit : ∀ c ∈ letters f.follows, letterFit c i next = true) :
    (letters f.follows).foldl (fun j c => letterWith c j (backNum c i next) next) ⟨f.op, if f.added = 1 then i.a else lo f.a, if f.added = 2 then i.b else 0, 0⟩ = i := by
  have h := takes_iff.1 ht
  clear ht
  obtain ⟨op, a, b, n⟩ := i
  have key : ∀ f ∈ tab, op = f.op → (lo f.a ≤ a ∧ a ≤ hi f.a) → (lo f.b ≤ b ∧ b ≤ hi f.b) → (lo f.n ≤ n ∧ n ≤ hi f.n) → (∀ c ∈ letters f.follows, letterFit c ⟨op, a, b, n⟩ next = true) →
      (letters f.follows).foldl (fun j c => letterWith c j (backNum c ⟨op, a, b, n⟩ next) next) ⟨f.op, if f.added = 1 then a else lo f.a, if f.added = 2 then b else 0, 0⟩ = ⟨op, a, b, n⟩ := by
    clear h hfit hf
    intro f hm
    simp only [tab, List.mem_cons, List.not_mem_nil, or_false] at hm
    rcases hm with rfl | rfl | rfl | rfl | rfl | rfl | rfl | rfl | rfl | rfl | rfl | rfl | rfl | rfl | rfl | rfl | rfl | rfl | rfl | rfl | rfl | rfl | rfl | rfl | rfl | rfl | rfl | rfl | rfl | rfl | rfl | rfl | rfl
    all_goals
      intro hop ha hb hn hfit
      simp [lo, hi] at ha hb hn
      simp [letters, letterFit, inR, lo, hi] at hfit
      simp only at hop
      subst hop
      simp [letters, letterWith, backNum, letterNum, sgn, inR, lo, hi]
      try omega
  exact key f hf h.1 h.2.1 h.2.2.1 h.2.2.2 hfit
theorem put_back {i : IIns} {at_ : Nat} {l pre : List Int} (h : insPut i at_ = some l) (hp : pre.length = at_) : insIn (pre ++ l) at_ = some i := by
  unfold insPut at h
  cases hf : formOf i with
  | none => rw [hf] at h; cases h
  | some f =>
    rw [hf] at h
    simp only at h
    split at h
    · split at h
      · rename_i _ hfit
        simp only [Option.some.injEq] at h
        obtain ⟨hm, ht⟩ := formOf_mem hf
        have hx : (pre ++ l).getD at_ 0 = firstByte f i := by rw [← h, ← hp]; simp
        have hrd : insRd (pre ++ l) at_ f = i := by
          unfold insRd
          rw [hx, begun_first]
          have e : pre ++ l = (pre ++ [firstByte f i]) ++ putList (letters f.follows) i (at_ + longOf (letters f.follows)) ++ [] := by rw [← h]; simp
          have e2 : at_ + 1 = (pre ++ [firstByte f i]).length := by simp [hp]
          rw [e, e2, rfold_back]
          exact fold_same hm ht _ (fun c hc => List.all_eq_true.1 hfit c hc)
        have hlen : (at_ : Int) + longOf (letters f.follows) ≤ (pre ++ l).length := by
          have h1 := putList_len (letters f.follows) i (at_ + longOf (letters f.follows))
          rw [← h, List.length_append, List.length_cons, hp]
          omega
        unfold insIn
        rw [hx, formAt_first hm ht]
        simp only
        rw [hrd, ht, decide_eq_true hlen]
        rfl
      · cases h
    · cases h
end Go.Proofs.YtihhpgklpichgaaGreat.C2
namespace Go.Proofs.YtihhpgklpichgaaGreat.C2
open Go.RowKit Pl Ft Mm In

theorem byte_iff {x : Int} : isByte x = true ↔ 0 ≤ x ∧ x ≤ 255 := by simp [isByte, inR, lo, hi]
theorem first_bd : ∀ k, k < 33 → 0 ≤ (tab.getD k .none).first + lo (addRange (tab.getD k .none)) ∧ (tab.getD k .none).first + hi (addRange (tab.getD k .none)) ≤ 255 := by decide +kernel
theorem first_byte {f : IForm} {i : IIns} (hf : f ∈ tab) (ht : takes f i = true) : isByte (firstByte f i) = true := by
  obtain ⟨k, hk, ek⟩ := tab_at hf
  have ht' := takes_iff.1 ht
  have hb := first_bd k hk
  rw [ek] at hb
  have hr2 : lo (addRange f) ≤ addOf f i ∧ addOf f i ≤ hi (addRange f) := by
    unfold addRange addOf
    by_cases h1 : f.added = 1
    · rw [if_pos h1, if_pos h1]; exact ht'.2.1
    · rw [if_neg h1, if_neg h1]
      by_cases h2 : f.added = 2
      · rw [if_pos h2, if_pos h2]; exact ht'.2.2.1
      · rw [if_neg h2, if_neg h2]; decide
  rw [byte_iff, firstByte_eq]
  omega
theorem put_bytes {i : IIns} {at_ : Int} {l : List Int} (h : insPut i at_ = some l) : l.all isByte = true := by
  unfold insPut at h
  cases hf : formOf i with
  | none => rw [hf] at h; cases h
  | some f =>
    rw [hf] at h
    simp only at h
    split at h
    · split at h
      · simp only [Option.some.injEq] at h
        obtain ⟨hm, ht⟩ := formOf_mem hf
        rw [← h, List.all_cons, first_byte hm ht, Bool.true_and, List.all_eq_true]
        intro y hy
        obtain ⟨c, _, hy⟩ := List.mem_flatMap.1 hy
        obtain ⟨j, _, rfl⟩ := List.mem_map.1 hy
        exact byte_iff.2 (by omega)
      · cases h
    · cases h
theorem insAt_put {i : IIns} {at_ : Nat} {l : List Int} (h : insPut i at_ = some l) (hl0 : 0 < l.length) (hlen : at_ + l.length ≤ 2000) : insAt (List.replicate at_ 0 ++ l) at_ = some i := by
  have hp : (List.replicate at_ (0 : Int)).length = at_ := List.length_replicate
  have hz : (List.replicate at_ (0 : Int)).all isByte = true := by
    rw [List.all_eq_true]
    intro x hx
    rw [(List.mem_replicate.1 hx).2]
    rfl
  have hc : isCode (List.replicate at_ 0 ++ l) = true := by
    unfold isCode
    rw [List.all_append, hz, put_bytes h, decide_eq_true (by rw [List.length_append, hp]; omega)]
    rfl
  have hlt : ((at_ : Int)) < ((List.replicate at_ (0 : Int) ++ l).length : Nat) := by rw [List.length_append, hp]; omega
  unfold insAt
  rw [hc, decide_eq_true (by omega : (0 : Int) ≤ at_), decide_eq_true hlt, if_pos (by decide), Int.toNat_natCast]
  exact put_back h hp
theorem jump_near {i : IIns} {f : IForm} (hf : formOf i = some f) (hj : isJump i = true) : ∀ c ∈ letters f.follows, letterFit c i (i.n + longOf (letters f.follows)) = true := by
  obtain ⟨hm, ht⟩ := formOf_mem hf
  intro c hc
  have hs := (tab_letters f hm).2
  have hb := longOf_bd (letters f.follows)
  rw [letters_len] at hb
  unfold letterFit
  split
  · simp [inR, lo, hi]; omega
  · rfl
theorem tab_near : ∀ k, k < 33 → ∀ c ∈ letters (tab.getD k .none).follows, c = 110 → (tab.getD k .none).op = 27 ∨ (tab.getD k .none).op = 28 := by decide +kernel
theorem put_exists {i : IIns} {at_ : Int} (hv : validIns i = true) (h0 : 0 ≤ at_) (h1 : at_ ≤ 1999) (hj : isJump i = true → at_ = i.n) : ∃ l, insPut i at_ = some l := by
  have hs := some_valid i
  rw [hv] at hs
  obtain ⟨f, hf⟩ := Option.isSome_iff_exists.1 hs
  obtain ⟨hm, ht⟩ := formOf_mem hf
  have hop := (takes_iff.1 ht).1
  have hfit : (letters f.follows).all (fun c => letterFit c i (at_ + longOf (letters f.follows))) = true := by
    rw [List.all_eq_true]
    intro c hc
    by_cases h110 : c = 110
    · obtain ⟨k, hk, ek⟩ := tab_at hm
      have hk2 := tab_near k hk c (by rw [ek]; exact hc) h110
      rw [ek, ← hop] at hk2
      have hjj : isJump i = true := by
        unfold isJump
        rcases hk2 with e | e <;> rw [e] <;> rfl
      rw [hj hjj]
      exact jump_near hf hjj c hc
    · unfold letterFit; rw [if_neg h110]
  have hin : inR 8 at_ = true := by simp [inR, lo, hi]; omega
  refine ⟨firstByte f i :: putList (letters f.follows) i (at_ + longOf (letters f.follows)), ?_⟩
  unfold insPut
  rw [hf]
  simp only
  rw [if_pos hin, if_pos hfit]
theorem jump_n {i : IIns} (hv : validIns i = true) (hj : isJump i = true) : 0 ≤ i.n ∧ i.n ≤ 1999 := by
  obtain ⟨op, a, b, n⟩ := i
  have : op = 27 ∨ op = 28 := by simpa [isJump] using hj
  rcases this with rfl | rfl
  all_goals
    simp [validIns, validAt, inRange, stab] at hv
    simp only
    omega
end Go.Proofs.YtihhpgklpichgaaGreat.C2
namespace Go.Proofs.YtihhpgklpichgaaGreat.C2
open Go.RowKit Pl Ft Mm In

/-- The parts read one after the other from a list of bytes. -/
def rdl (next : Int) (j : IIns) : List Nat → List Int → IIns
  | [], _ => j
  | c :: l, bs => rdl next (letterWith c j (numIn (bs.take (letterLong c).toNat)) next) l (bs.drop (letterLong c).toNat)
theorem rfold_rdl (code : List Int) (next : Int) : ∀ (l : List Nat) (j : IIns) (p : Nat), (rfold code next j p l).1 = rdl next j l (code.drop p) := by
  intro l
  induction l with
  | nil => intro j p; rfl
  | cons c l ih =>
    intro j p
    have e : rfold code next j p (c :: l) = rfold code next (rstep code next (j, p) c).1 (rstep code next (j, p) c).2 l := rfl
    rw [e, ih]
    unfold rstep
    simp only [rdl, List.drop_drop]
theorem rdl_take (next : Int) : ∀ (L : List Nat) (j : IIns) (cs : List Int) (m : Nat), (m : Int) + 1 = longOf L → rdl next j L (cs.take m) = rdl next j L cs := by
  intro L
  induction L with
  | nil => intro j cs m _; rfl
  | cons c l ih =>
    intro j cs m hm
    have hc := letterLong_nat c
    have hlb := longOf_bd l
    have e : longOf (c :: l) = letterLong c + longOf l := by
      simp only [longOf, List.map_cons, List.sum_cons]
      omega
    rw [e] at hm
    have hk : (letterLong c).toNat ≤ m := by omega
    simp only [rdl]
    rw [List.take_take, Nat.min_eq_left hk, List.drop_take]
    exact ih _ _ _ (by omega)
def follows8 : List (List Nat) := [[], [114], [119], [115], [114, 98], [98], [110], [116, 119]]
theorem tab_follows : ∀ f ∈ tab, letters f.follows ∈ follows8 := by
  intro f hf
  have : tab.all (fun f => decide (letters f.follows ∈ follows8)) = true := by decide +kernel
  simpa using List.all_eq_true.1 this f hf
theorem byte_pair {x : Int} (h : isByte x = true) : 0 ≤ x ∧ x ≤ 255 := byte_iff.1 h
/-- With these letters: the numbers read are the ones that are written. -/
theorem put_read (next : Int) (j : IIns) (L : List Nat) (hL : L ∈ follows8) (bs : List Int) (hb : bs.all isByte = true) (hl : (bs.length : Int) + 1 = longOf L) :
    putList L (rdl next j L bs) next = bs ∧ (∀ c ∈ L, letterFit c (rdl next j L bs) next = true) ∧ (114 ∉ L → (rdl next j L bs).a = j.a) ∧ (114 ∉ L → 116 ∉ L → (rdl next j L bs).b = j.b) ∧ (rdl next j L bs).op = j.op := by
  obtain ⟨op, a, b, n⟩ := j
  simp only [follows8, List.mem_cons, List.not_mem_nil, or_false] at hL
  rcases hL with rfl | rfl | rfl | rfl | rfl | rfl | rfl | rfl
  · match bs, hl with
    | [], _ => simp [putList, rdl]
    | x :: r, hl => simp [longOf] at hl; omega
  · match bs, hl, hb with
    | [], hl, _ => simp [longOf, letterLong] at hl
    | [x], _, hb =>
      have h := byte_pair (by simpa using hb)
      simp [putList, rdl, letterPut, letterNum, letterLong, letterWith, letterFit, bytesOf, dv, List.range_succ, numIn]
      omega
    | x :: y :: r, hl, _ => simp [longOf, letterLong] at hl; omega
  · match bs, hl, hb with
    | [], hl, _ => simp [longOf, letterLong] at hl
    | [x], hl, _ => simp [longOf, letterLong] at hl
    | [x, y], _, hb =>
      have h := byte_pair (x := x) (by simp at hb; exact hb.1)
      have h2 := byte_pair (x := y) (by simp at hb; exact hb.2)
      simp [putList, rdl, letterPut, letterNum, letterLong, letterWith, letterFit, bytesOf, dv, List.range_succ, numIn, sgn, inR, lo, hi]
      first
        | omega
        | (by_cases hx : -128 ≤ x ∧ x ≤ 127 <;> simp only [hx, if_true, if_false, and_self, true_and] <;> omega)
    | x :: y :: z :: r, hl, _ => simp [longOf, letterLong] at hl; omega
  · match bs, hl, hb with
    | [], hl, _ => simp [longOf, letterLong] at hl
    | [x], _, hb =>
      have h := byte_pair (by simpa using hb)
      simp [putList, rdl, letterPut, letterNum, letterLong, letterWith, letterFit, bytesOf, dv, List.range_succ, numIn, sgn, inR, lo, hi]
      first
        | omega
        | (by_cases hx : -128 ≤ x ∧ x ≤ 127 <;> simp only [hx, if_true, if_false, and_self, true_and] <;> omega)
    | x :: y :: r, hl, _ => simp [longOf, letterLong] at hl; omega
  · match bs, hl, hb with
    | [], hl, _ => simp [longOf, letterLong] at hl
    | [x], hl, _ => simp [longOf, letterLong] at hl
    | [x, y], _, hb =>
      have h := byte_pair (x := x) (by simp at hb; exact hb.1)
      have h2 := byte_pair (x := y) (by simp at hb; exact hb.2)
      simp [putList, rdl, letterPut, letterNum, letterLong, letterWith, letterFit, bytesOf, dv, List.range_succ, numIn, sgn, inR, lo, hi]
      first
        | omega
        | (by_cases hx : -128 ≤ x ∧ x ≤ 127 <;> simp only [hx, if_true, if_false, and_self, true_and] <;> omega)
    | x :: y :: z :: r, hl, _ => simp [longOf, letterLong] at hl; omega
  · match bs, hl, hb with
    | [], hl, _ => simp [longOf, letterLong] at hl
    | [x], _, hb =>
      have h := byte_pair (by simpa using hb)
      simp [putList, rdl, letterPut, letterNum, letterLong, letterWith, letterFit, bytesOf, dv, List.range_succ, numIn, sgn, inR, lo, hi]
      first
        | omega
        | (by_cases hx : -128 ≤ x ∧ x ≤ 127 <;> simp only [hx, if_true, if_false, and_self, true_and] <;> omega)
    | x :: y :: r, hl, _ => simp [longOf, letterLong] at hl; omega
  · match bs, hl, hb with
    | [], hl, _ => simp [longOf, letterLong] at hl
    | [x], _, hb =>
      have h := byte_pair (by simpa using hb)
      simp [putList, rdl, letterPut, letterNum, letterLong, letterWith, letterFit, bytesOf, dv, List.range_succ, numIn, sgn, inR, lo, hi]
      first
        | omega
        | (by_cases hx : -128 ≤ x ∧ x ≤ 127 <;> simp only [hx, if_true, if_false, and_self, true_and] <;> omega)
    | x :: y :: r, hl, _ => simp [longOf, letterLong] at hl; omega
  · match bs, hl, hb with
    | [], hl, _ => simp [longOf, letterLong] at hl
    | [x], hl, _ => simp [longOf, letterLong] at hl
    | [x, y], hl, _ => simp [longOf, letterLong] at hl
    | [x, y, z], _, hb =>
      have h := byte_pair (x := x) (by simp at hb; exact hb.1)
      have h2 := byte_pair (x := y) (by simp at hb; exact hb.2.1)
      have h3 := byte_pair (x := z) (by simp at hb; exact hb.2.2)
      simp [putList, rdl, letterPut, letterNum, letterLong, letterWith, letterFit, bytesOf, dv, List.range_succ, numIn, sgn, inR, lo, hi]
      first
        | omega
        | (by_cases hx : -128 ≤ x ∧ x ≤ 127 <;> simp only [hx, if_true, if_false, and_self, true_and] <;> omega)
    | x :: y :: z :: u :: r, hl, _ => simp [longOf, letterLong] at hl; omega
theorem tab_rows : ∀ k, k < 33 → ((tab.getD k .none).added = 0 ∨ (tab.getD k .none).added = 1 ∨ (tab.getD k .none).added = 2) ∧ ((tab.getD k .none).added = 1 → 114 ∉ letters (tab.getD k .none).follows) ∧ ((tab.getD k .none).added = 2 → 114 ∉ letters (tab.getD k .none).follows ∧ 116 ∉ letters (tab.getD k .none).follows) := by decide +kernel
theorem takes_form {code : List Int} {at_ : Nat} {f : IForm} (hf : f ∈ tab) (ht : takes f (insRd code at_ f) = true) : formOf (insRd code at_ f) = some f := by
  have hv := takes_valid code at_ f hf
  rw [ht, ← some_valid] at hv
  obtain ⟨g, hg⟩ := Option.isSome_iff_exists.1 hv.symm
  have hop : (insRd code at_ f).op = f.op := by unfold insRd; rw [rfold_op, begunIns_op]
  obtain ⟨hm, hgt⟩ := formOf_mem hg
  obtain ⟨j, hj, ej⟩ := tab_at hf
  obtain ⟨k, hk, ek⟩ := tab_at hm
  have hal := alone_all j hj k hk
  unfold alone at hal
  rw [ej, ek] at hal
  have ht' := takes_iff.1 hgt
  have e1 : (f.op == g.op) = true := by rw [beq_iff_eq, ← hop]; exact ht'.1
  rw [e1] at hal
  simp only [Bool.not_true, Bool.false_or, Bool.or_eq_true, beq_iff_eq, Bool.and_eq_true, Bool.not_eq_true', beq_eq_false_iff_ne, decide_eq_true_eq] at hal
  rcases hal with rfl | ⟨⟨h1, h2⟩, h3⟩
  · rw [hg, ← ej, ek]
  · exfalso
    have ha : (insRd code at_ f).a = lo f.a := by
      unfold insRd
      rw [rfold_a _ _ _ _ _ h1]
      unfold begunIns
      rw [if_neg h2]
      split <;> rfl
    rw [ha] at ht'
    rw [decide_eq_true ht'.2.1.1, decide_eq_true ht'.2.1.2] at h3
    cases h3
/-- What insIn reads is put as it was. -/
theorem read_put {code : List Int} {at_ : Nat} {i : IIns} (hc : code.all isByte = true) (hat : at_ < code.length) (h2000 : at_ ≤ 1999) (h : insIn code at_ = some i) :
    ∃ l, insPut i at_ = some l ∧ l = (code.drop at_).take l.length ∧ at_ + l.length ≤ code.length := by
  unfold insIn at h
  cases hf : formAt (code.getD at_ 0) with
  | none => rw [hf] at h; cases h
  | some f =>
    rw [hf] at h
    simp only at h
    split at h
    · rename_i hok
      simp only [Option.some.injEq] at h
      simp only [Bool.and_eq_true, decide_eq_true_eq] at hok
      obtain ⟨hlen, ht⟩ := hok
      have hm := formAt_mem hf
      have hform := takes_form hm ht
      have hbo : begunOk f (code.getD at_ 0) = true := by
        have := List.find?_some hf
        exact this
      obtain ⟨L, hL⟩ : ∃ L, letters f.follows = L := ⟨_, rfl⟩
      have hL8 := tab_follows f hm
      rw [hL] at hlen hL8
      have hLb := longOf_bd L
      obtain ⟨m, hmm⟩ : ∃ m : Nat, longOf L = (m : Int) + 1 := ⟨(longOf L - 1).toNat, by omega⟩
      obtain ⟨x0, hx0⟩ : ∃ x, code.getD at_ 0 = x := ⟨_, rfl⟩
      obtain ⟨bs, hbs⟩ : ∃ bs, (code.drop (at_ + 1)).take m = bs := ⟨_, rfl⟩
      have hbl : bs.length = m := by rw [← hbs, List.length_take, List.length_drop]; omega
      have hbb : bs.all isByte = true := by
        rw [← hbs, List.all_eq_true]
        rw [List.all_eq_true] at hc
        exact fun x hx => hc x (List.mem_of_mem_drop (List.mem_of_mem_take hx))
      have hie : i = rdl (at_ + longOf L) (begunIns f x0) L bs := by
        rw [← h]
        unfold insRd
        rw [hL, rfold_rdl, hx0, ← hbs, rdl_take _ L _ _ m hmm.symm]
      obtain ⟨p1, p2, p3, p4, p5⟩ := put_read (at_ + longOf L) (begunIns f x0) L hL8 bs hbb (by omega)
      rw [← hie] at p1 p2 p3 p4 p5
      have hfirst : firstByte f i = x0 := by
        obtain ⟨k, hk, ek⟩ := tab_at hm
        obtain ⟨t1, t2, t3⟩ := tab_rows k hk
        rw [ek, hL] at t2 t3
        rw [ek] at t1
        rw [hx0] at hbo
        unfold begunOk at hbo
        unfold firstByte
        rcases t1 with e | e | e
        · rw [if_neg (by omega), if_neg (by omega)] at hbo ⊢
          have := beq_iff_eq.1 hbo
          omega
        · rw [if_pos e]
          have h3 := p3 (t2 e)
          unfold begunIns at h3
          rw [if_pos e] at h3
          simp only at h3
          omega
        · rw [if_neg (by omega), if_pos e]
          have h4 := p4 (t3 e).1 (t3 e).2
          unfold begunIns at h4
          rw [if_neg (by omega), if_pos e] at h4
          simp only at h4
          omega
      have hin : inR 8 (at_ : Int) = true := by simp [inR, lo, hi]; omega
      have hput : insPut i at_ = some (x0 :: bs) := by
        rw [h] at hform
        unfold insPut
        rw [hform]
        simp only
        rw [hL, if_pos hin, if_pos (List.all_eq_true.2 p2), hfirst, p1]
      refine ⟨x0 :: bs, hput, ?_, by simp; omega⟩
      rw [List.length_cons, hbl, ← hbs, ← hx0, List.drop_eq_getElem_cons hat, List.take_succ_cons]
      congr 1
      simp [hat]
    · cases h
end Go.Proofs.YtihhpgklpichgaaGreat.C2
