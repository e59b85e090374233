/- Facts on the two tables of instructions: lengths, first bytes. No call is spoken of here. -/
import Derived.Test.YtcpkkedhgmnonaaDoorFormLem
set_option linter.unusedSimpArgs false
set_option linter.unusedVariables false
namespace Go.Proofs.YtcpkkedhgmnonaaDoor.Ft
open Go.RowKit Pl

def isJump (i : IIns) : Bool := i.op == 27 || i.op == 28
def slong (i : IIns) : Int := if (isJump i && i.a == 1) = true then 3 else longOf (letters (stab.getD i.op.toNat .none).rest)
theorem takes_iff {f : IForm} {i : IIns} : takes f i = true ↔ i.op = f.op ∧ (lo f.a ≤ i.a ∧ i.a ≤ hi f.a) ∧ (lo f.b ≤ i.b ∧ i.b ≤ hi f.b) ∧ (lo f.n ≤ i.n ∧ i.n ≤ hi f.n) := by
  simp [takes, inR]
theorem tab_cases (P : IForm → Prop) (h : ∀ k, k < 33 → P (tab.getD k .none)) : ∀ f ∈ tab, P f := by
  intro f hf
  obtain ⟨k, hk, e⟩ := List.mem_iff_getElem.1 hf
  have hl : tab.length = 33 := by decide +kernel
  have := h k (by omega)
  rw [List.getD_eq_getElem?_getD, List.getElem?_eq_getElem hk] at this
  rw [← e]
  exact this
theorem long_eq {i : IIns} {f : IForm} (h : formOf i = some f) : longOf (letters f.follows) = slong i := by
  obtain ⟨hm, ht⟩ := formOf_mem h
  clear h
  have ht := takes_iff.1 ht
  obtain ⟨op, a, b, n⟩ := i
  simp only at ht
  have key : f ∈ tab → op = f.op → lo f.a ≤ a → a ≤ hi f.a → longOf (letters f.follows) = slong ⟨op, a, b, n⟩ := by
    intro hm
    simp only [tab, List.mem_cons, List.not_mem_nil, or_false] at hm
    rcases hm with rfl | rfl | rfl | rfl | rfl | rfl | rfl | rfl | rfl | rfl | rfl | rfl | rfl | rfl | rfl | rfl | rfl | rfl | rfl | rfl | rfl | rfl | rfl | rfl | rfl | rfl | rfl | rfl | rfl | rfl | rfl | rfl | rfl
    all_goals
      intro hop ha1 ha2
      simp only at hop ha1 ha2
      simp only [lo, hi] at ha1 ha2
      simp at ha1 ha2
      subst hop
      first
      | (simp [slong, isJump, stab, longOf, letters, letterLong]; done)
      | (by_cases h0 : a = 0
         · subst h0
           first | (exfalso; omega) | simp [slong, isJump, stab, longOf, letters, letterLong]
         · by_cases h1 : a = 1
           · subst h1
             first | (exfalso; omega) | simp [slong, isJump, stab, longOf, letters, letterLong]
           · exfalso; omega)
  exact key hm ht.1 ht.2.1.1 ht.2.1.2
structure Bounds (i : IIns) (f : IForm) : Prop where
  f0 : 0 ≤ f.first
  f1 : f.first ≤ 131
  a0 : 0 ≤ i.a
  a1 : i.a ≤ 3
  b0 : 0 ≤ i.b
  b1 : i.b ≤ 8
  n0 : -128 ≤ i.n
  n1 : i.n ≤ 65535
  lets : ∀ c ∈ letters f.follows, isLetter c = true
  size : f.follows.size ≤ 2
theorem form_bounds {i : IIns} {f : IForm} (h : formOf i = some f) : Bounds i f := by
  obtain ⟨hm, ht⟩ := formOf_mem h
  have hl := tab_letters f hm
  have hx : tab.all (fun f => decide (0 ≤ f.first ∧ f.first ≤ 131 ∧ 0 ≤ lo f.a ∧ hi f.a ≤ 3 ∧ 0 ≤ lo f.b ∧ hi f.b ≤ 8 ∧ -128 ≤ lo f.n ∧ hi f.n ≤ 65535)) = true := by decide +kernel
  have hy := (List.all_eq_true.1 hx) f hm
  simp only [decide_eq_true_eq] at hy
  have ht := takes_iff.1 ht
  exact ⟨by omega, by omega, by omega, by omega, by omega, by omega, by omega, by omega, hl.1, hl.2⟩
/-- What InsPut answers. -/
def insPut (i : IIns) (at_ : Int) : Option (List Int) :=
  match formOf i with
  | none => none
  | some f => if inR 8 at_ = true then (if (letters f.follows).all (fun c => letterFit c i (at_ + longOf (letters f.follows))) = true then some (firstByte f i :: putList (letters f.follows) i (at_ + longOf (letters f.follows))) else none) else none
structure SBounds (i : IIns) (f : SForm) : Prop where
  o0 : 0 ≤ i.op
  o1 : i.op ≤ 30
  f0 : 0 ≤ f.first
  f1 : f.first ≤ 131
  a0 : 0 ≤ i.a
  a1 : i.a ≤ 3
  b0 : 0 ≤ i.b
  b1 : i.b ≤ 8
  n0 : -128 ≤ i.n
  n1 : i.n ≤ 65535
  lets : ∀ c ∈ letters f.rest, isLetter c = true ∧ (c = 119 → 0 ≤ i.n)
  size : f.rest.size ≤ 2
  far : isJump i = true → 0 ≤ i.n
theorem valid_bounds {i : IIns} (h : validIns i = true) : SBounds i (stab.getD i.op.toNat .none) := by
  obtain ⟨op, a, b, n⟩ := i
  simp only [validIns, Bool.and_eq_true] at h
  obtain ⟨ho, hv⟩ := h
  have ho' : 0 ≤ op ∧ op ≤ 30 := by simpa [inRange] using ho
  obtain ⟨k, rfl⟩ := Int.eq_ofNat_of_zero_le ho'.1
  have hk : k ≤ 30 := by omega
  have hx : ∀ k, k ≤ 30 → (let f := stab.getD k .none; 0 ≤ f.first ∧ f.first ≤ 131 ∧ f.a ≤ 3 ∧ f.b ≤ 8 ∧ -128 ≤ f.low ∧ f.high ≤ 65535 ∧ f.rest.size ≤ 2 ∧ (letters f.rest).all isLetter = true ∧ ((letters f.rest).contains 119 = true → 0 ≤ f.low) ∧ (k = 27 ∨ k = 28 → 0 ≤ f.low)) := by decide +kernel
  have hy := hx k hk
  simp only at hy
  have e : ((k : Int)).toNat = k := by simp
  simp only [e] at hv ⊢
  obtain ⟨y1, y2, y3, y4, y5, y6, y7, y8, y9, y10⟩ := hy
  simp only [validAt, inRange, Bool.and_eq_true, decide_eq_true_eq] at hv
  refine ⟨by simp only; omega, by simp only; omega, y1, y2, by simp only; omega, by simp only; omega, by simp only; omega, by simp only; omega, by simp only; omega, by simp only; omega, ?_, y7, ?_⟩
  · intro c hc
    refine ⟨List.all_eq_true.1 y8 c hc, ?_⟩
    rintro rfl
    have := y9 (by simpa using hc)
    simp only
    omega
  · intro hj
    simp only [isJump, Bool.or_eq_true, beq_iff_eq] at hj
    have := y10 (by omega)
    simp only
    omega
def sfirst (f : SForm) (i : IIns) : Int := if f.plus = 97 then f.first + i.a else if f.plus = 98 then f.first + i.b else f.first
/-- What the model's put answers. -/
def sput (i : IIns) (at_ : Int) : Option (List Int) :=
  let f := stab.getD i.op.toNat .none
  if (isJump i && i.a == 1) = true then some [sfirst f i + 8, i.n % 256, i.n / 256]
  else if (letters f.rest).all (fun c => letterFit c i (at_ + 2)) = true then some (sfirst f i :: putList (letters f.rest) i (at_ + 2)) else none
theorem bytes1 (x : Int) : bytesOf x 1 = [x % 256] := rfl
theorem bytes2 (x : Int) : bytesOf x 2 = [x % 256, x / 256 % 256] := rfl
theorem letterPut_r {i : IIns} (next : Int) (h0 : 0 ≤ i.a) (h1 : i.a ≤ 3) (h2 : 0 ≤ i.b) (h3 : i.b ≤ 8) : [i.a * 16 + i.b] = letterPut i next 114 := by
  have e : letterPut i next 114 = [(16 * i.a + i.b) % 256] := bytes1 _
  rw [e]
  congr 1
  omega
theorem letterPut_b {i : IIns} (next : Int) : [i.n % 256] = letterPut i next 98 := rfl
theorem letterPut_s {i : IIns} (next : Int) : [i.n % 256] = letterPut i next 115 := rfl
theorem letterPut_w {i : IIns} (next : Int) (h0 : 0 ≤ i.n) (h1 : i.n ≤ 65535) : [i.n % 256, i.n / 256] = letterPut i next 119 := by
  have e : letterPut i next 119 = [i.n % 256, i.n / 256 % 256] := bytes2 _
  rw [e]
  congr 2
  omega
theorem letterPut_t {i : IIns} (next : Int) (h2 : 0 ≤ i.b) (h3 : i.b ≤ 8) : [i.b] = letterPut i next 116 := by
  have e : letterPut i next 116 = [i.b % 256] := bytes1 _
  rw [e]
  congr 1
  omega
theorem letterPut_j {i : IIns} (next x : Int) (h : x = i.n - next) : [x % 256] = letterPut i next 110 := by
  subst h
  rfl
end Go.Proofs.YtcpkkedhgmnonaaDoor.Ft
