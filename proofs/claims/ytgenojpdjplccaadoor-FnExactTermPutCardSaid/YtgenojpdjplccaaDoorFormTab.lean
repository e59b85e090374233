/- The table of instructions as the program lays it: rows of numbers and texts. No call is spoken of here · Facts on the two tables of instructions: which row takes an instruction. No call is spoken of here · Facts on the two tables of instructions: lengths, first bytes. No call is spoken of here · Facts on the two tables of instructions: InsPut of the program and of the model answer the same. No call is spoken of here. -/
import Derived.Test.YtgenojpdjplccaaDoorPlain
set_option linter.unusedSimpArgs false
set_option linter.unusedVariables false
namespace Go.Proofs.YtgenojpdjplccaaDoor.Ft
open Go.RowKit Pl

/-- A row of the table: kind, first byte, what is added, the ranges of A, B and N, what follows, the text. -/
structure IForm where
  op : Int
  first : Int
  added : Int
  a : Int
  b : Int
  n : Int
  follows : ByteArray
  text : ByteArray
def IForm.cells (f : IForm) : List Value := [.int .i64 f.op, .int .i64 f.first, .int .i64 f.added, .int .i64 f.a, .int .i64 f.b, .int .i64 f.n, .string f.follows, .string f.text]
def IForm.val (f : IForm) : Value := .agg #[.int .i64 f.op, .int .i64 f.first, .int .i64 f.added, .int .i64 f.a, .int .i64 f.b, .int .i64 f.n, .string f.follows, .string f.text]
def IForm.none : IForm := ⟨0, 0, 0, 0, 0, 0, ⟨#[]⟩, ⟨#[]⟩⟩
def tab : List IForm :=
  [⟨0, 0, 0, 0, 0, 0, ⟨#[]⟩, ⟨#[104, 97, 108, 116]⟩⟩,
   ⟨1, 1, 0, 0, 0, 0, ⟨#[]⟩, ⟨#[114, 101, 116]⟩⟩,
   ⟨2, 2, 0, 0, 0, 0, ⟨#[]⟩, ⟨#[110, 111, 112]⟩⟩,
   ⟨3, 16, 1, 2, 0, 0, ⟨#[]⟩, ⟨#[112, 117, 115, 104, 32, 114, 65]⟩⟩,
   ⟨4, 20, 1, 2, 0, 0, ⟨#[]⟩, ⟨#[112, 111, 112, 32, 114, 65]⟩⟩,
   ⟨5, 24, 1, 2, 0, 0, ⟨#[]⟩, ⟨#[111, 117, 116, 32, 114, 65]⟩⟩,
   ⟨6, 28, 1, 2, 0, 0, ⟨#[]⟩, ⟨#[105, 110, 32, 114, 65]⟩⟩,
   ⟨7, 32, 0, 2, 2, 0, ⟨#[114]⟩, ⟨#[109, 111, 118, 101, 32, 114, 65, 32, 114, 66]⟩⟩,
   ⟨8, 33, 0, 2, 2, 0, ⟨#[114]⟩, ⟨#[108, 111, 119, 32, 114, 65, 32, 114, 66]⟩⟩,
   ⟨9, 34, 0, 2, 2, 0, ⟨#[114]⟩, ⟨#[97, 100, 100, 32, 114, 65, 32, 114, 66]⟩⟩,
   ⟨10, 35, 0, 2, 2, 0, ⟨#[114]⟩, ⟨#[115, 117, 98, 32, 114, 65, 32, 114, 66]⟩⟩,
   ⟨11, 36, 0, 2, 2, 0, ⟨#[114]⟩, ⟨#[109, 117, 108, 32, 114, 65, 32, 114, 66]⟩⟩,
   ⟨12, 37, 0, 2, 2, 0, ⟨#[114]⟩, ⟨#[97, 110, 100, 32, 114, 65, 32, 114, 66]⟩⟩,
   ⟨13, 38, 0, 2, 2, 0, ⟨#[114]⟩, ⟨#[111, 114, 32, 114, 65, 32, 114, 66]⟩⟩,
   ⟨14, 39, 0, 2, 2, 0, ⟨#[114]⟩, ⟨#[120, 111, 114, 32, 114, 65, 32, 114, 66]⟩⟩,
   ⟨15, 40, 0, 2, 2, 0, ⟨#[114]⟩, ⟨#[99, 109, 112, 32, 114, 65, 32, 114, 66]⟩⟩,
   ⟨16, 48, 1, 2, 0, 5, ⟨#[119]⟩, ⟨#[115, 101, 116, 32, 114, 65, 32, 78]⟩⟩,
   ⟨17, 52, 1, 2, 0, 6, ⟨#[115]⟩, ⟨#[97, 100, 100, 110, 32, 114, 65, 32, 78]⟩⟩,
   ⟨18, 56, 1, 2, 0, 6, ⟨#[115]⟩, ⟨#[99, 109, 112, 110, 32, 114, 65, 32, 78]⟩⟩,
   ⟨19, 64, 0, 2, 2, 7, ⟨#[114, 98]⟩, ⟨#[108, 111, 97, 100, 32, 114, 65, 32, 114, 66, 32, 78]⟩⟩,
   ⟨20, 65, 0, 2, 2, 7, ⟨#[114, 98]⟩, ⟨#[115, 116, 111, 114, 101, 32, 114, 65, 32, 114, 66, 32, 78]⟩⟩,
   ⟨21, 66, 0, 2, 2, 7, ⟨#[114, 98]⟩, ⟨#[108, 111, 97, 100, 98, 32, 114, 65, 32, 114, 66, 32, 78]⟩⟩,
   ⟨22, 67, 0, 2, 2, 7, ⟨#[114, 98]⟩, ⟨#[115, 116, 111, 114, 101, 98, 32, 114, 65, 32, 114, 66, 32, 78]⟩⟩,
   ⟨23, 130, 0, 2, 0, 7, ⟨#[114, 98]⟩, ⟨#[108, 111, 99, 97, 108, 32, 114, 65, 32, 78]⟩⟩,
   ⟨24, 131, 0, 2, 0, 7, ⟨#[114, 98]⟩, ⟨#[107, 101, 101, 112, 32, 114, 65, 32, 78]⟩⟩,
   ⟨25, 128, 0, 0, 0, 7, ⟨#[98]⟩, ⟨#[103, 114, 111, 119, 32, 78]⟩⟩,
   ⟨26, 129, 0, 0, 0, 7, ⟨#[98]⟩, ⟨#[100, 114, 111, 112, 32, 78]⟩⟩,
   ⟨27, 80, 0, 0, 0, 8, ⟨#[110]⟩, ⟨#[106, 117, 109, 112, 32, 78]⟩⟩,
   ⟨27, 88, 0, 1, 0, 8, ⟨#[119]⟩, ⟨#[106, 117, 109, 112, 32, 102, 97, 114, 32, 78]⟩⟩,
   ⟨28, 81, 2, 0, 3, 8, ⟨#[110]⟩, ⟨#[105, 102, 32, 67, 32, 78]⟩⟩,
   ⟨28, 89, 2, 1, 3, 8, ⟨#[119]⟩, ⟨#[105, 102, 32, 67, 32, 102, 97, 114, 32, 78]⟩⟩,
   ⟨29, 96, 0, 0, 0, 8, ⟨#[119]⟩, ⟨#[99, 97, 108, 108, 32, 78]⟩⟩,
   ⟨30, 112, 1, 2, 4, 8, ⟨#[116, 119]⟩, ⟨#[116, 97, 98, 108, 101, 32, 114, 65, 32, 66, 32, 78]⟩⟩]
def tabCells : Array Value := (tab.flatMap IForm.cells).toArray
def tabZero : Array Value := ((List.replicate 33 IForm.none).flatMap IForm.cells).toArray

/-- The ends of a range. -/
def lo (r : Int) : Int := if r = 1 then 1 else if r = 4 then 1 else if r = 6 then -128 else 0
def hi (r : Int) : Int := if r = 1 then 1 else if r = 2 then 3 else if r = 3 then 5 else if r = 4 then 8 else if r = 5 then 65535 else if r = 6 then 127 else if r = 7 then 255 else if r = 8 then 1999 else 0
def inR (r n : Int) : Bool := decide (lo r ≤ n) && decide (n ≤ hi r)
/-- Four numbers of an instruction. -/
structure IIns where
  op : Int
  a : Int
  b : Int
  n : Int
deriving DecidableEq
def IIns.val (i : IIns) : Value := .agg #[.int .i64 i.op, .int .i64 i.a, .int .i64 i.b, .int .i64 i.n]
def takes (f : IForm) (i : IIns) : Bool := i.op == f.op && (inR f.a i.a && (inR f.b i.b && inR f.n i.n))

/-- A row of the model's own table: first byte, what is added, the greatest A and B, the ends of N, what follows. -/
structure SForm where
  first : Int
  plus : Int
  a : Int
  b : Int
  low : Int
  high : Int
  rest : ByteArray
def SForm.cells (f : SForm) : List Value := [.int .i64 f.first, .int .u8 f.plus, .int .i64 f.a, .int .i64 f.b, .int .i64 f.low, .int .i64 f.high, .string f.rest]
def SForm.none : SForm := ⟨0, 0, 0, 0, 0, 0, ⟨#[]⟩⟩
def stab : List SForm :=
  [⟨0, 45, 0, 0, 0, 0, ⟨#[]⟩⟩,
   ⟨1, 45, 0, 0, 0, 0, ⟨#[]⟩⟩,
   ⟨2, 45, 0, 0, 0, 0, ⟨#[]⟩⟩,
   ⟨16, 97, 3, 0, 0, 0, ⟨#[]⟩⟩,
   ⟨20, 97, 3, 0, 0, 0, ⟨#[]⟩⟩,
   ⟨24, 97, 3, 0, 0, 0, ⟨#[]⟩⟩,
   ⟨28, 97, 3, 0, 0, 0, ⟨#[]⟩⟩,
   ⟨32, 45, 3, 3, 0, 0, ⟨#[114]⟩⟩,
   ⟨33, 45, 3, 3, 0, 0, ⟨#[114]⟩⟩,
   ⟨34, 45, 3, 3, 0, 0, ⟨#[114]⟩⟩,
   ⟨35, 45, 3, 3, 0, 0, ⟨#[114]⟩⟩,
   ⟨36, 45, 3, 3, 0, 0, ⟨#[114]⟩⟩,
   ⟨37, 45, 3, 3, 0, 0, ⟨#[114]⟩⟩,
   ⟨38, 45, 3, 3, 0, 0, ⟨#[114]⟩⟩,
   ⟨39, 45, 3, 3, 0, 0, ⟨#[114]⟩⟩,
   ⟨40, 45, 3, 3, 0, 0, ⟨#[114]⟩⟩,
   ⟨48, 97, 3, 0, 0, 65535, ⟨#[119]⟩⟩,
   ⟨52, 97, 3, 0, -128, 127, ⟨#[115]⟩⟩,
   ⟨56, 97, 3, 0, -128, 127, ⟨#[115]⟩⟩,
   ⟨64, 45, 3, 3, 0, 255, ⟨#[114, 98]⟩⟩,
   ⟨65, 45, 3, 3, 0, 255, ⟨#[114, 98]⟩⟩,
   ⟨66, 45, 3, 3, 0, 255, ⟨#[114, 98]⟩⟩,
   ⟨67, 45, 3, 3, 0, 255, ⟨#[114, 98]⟩⟩,
   ⟨130, 45, 3, 0, 0, 255, ⟨#[114, 98]⟩⟩,
   ⟨131, 45, 3, 0, 0, 255, ⟨#[114, 98]⟩⟩,
   ⟨128, 45, 0, 0, 0, 255, ⟨#[98]⟩⟩,
   ⟨129, 45, 0, 0, 0, 255, ⟨#[98]⟩⟩,
   ⟨80, 45, 1, 0, 0, 1999, ⟨#[110]⟩⟩,
   ⟨81, 98, 1, 5, 0, 1999, ⟨#[110]⟩⟩,
   ⟨96, 45, 0, 0, 0, 1999, ⟨#[119]⟩⟩,
   ⟨112, 97, 3, 8, 0, 1999, ⟨#[116, 119]⟩⟩]
def stwo (k : Nat) : SForm := ⟨32 + k, 45, 3, 3, 0, 0, ⟨#[114]⟩⟩
/-- Whether four numbers are an instruction, by the model. -/
def inRange (n l h : Int) : Bool := decide (l ≤ n ∧ n ≤ h)
def validAt (f : SForm) (i : IIns) : Bool := inRange i.a 0 f.a && (inRange i.b 0 f.b && (inRange i.n f.low f.high && (!(i.op == 30) || decide (0 < i.b))))
def validIns (i : IIns) : Bool := inRange i.op 0 30 && validAt (stab.getD i.op.toNat .none) i

/-- The letters of what follows, and how many bytes each stands for. -/
def isLetter (c : Nat) : Bool := c == 114 || c == 98 || c == 115 || c == 119 || c == 116 || c == 110
def letterLong (c : Nat) : Int := if c = 119 then 2 else 1
def letters (s : ByteArray) : List Nat := s.data.toList.map (·.toNat)
def longOf (l : List Nat) : Int := 1 + (l.map letterLong).sum
theorem longOf_succ (l : List Nat) (k : Nat) (h : k < l.length) : longOf (l.take (k + 1)) = longOf (l.take k) + letterLong l[k] := by
  rw [List.take_succ_eq_append_getElem h]
  simp only [longOf, List.map_append, List.sum_append, List.map_cons, List.map_nil, List.sum_cons, List.sum_nil]
  omega
theorem longOf_bd (l : List Nat) : 1 ≤ longOf l ∧ longOf l ≤ 1 + 2 * l.length := by
  unfold longOf
  induction l with
  | nil => simp
  | cons c l ih =>
    simp only [List.map_cons, List.sum_cons, List.length_cons]
    have : 1 ≤ letterLong c ∧ letterLong c ≤ 2 := by unfold letterLong; split <;> omega
    omega
theorem letters_len (s : ByteArray) : (letters s).length = s.size := by rw [letters, List.length_map, Array.length_toList]; rfl
theorem letters_get (s : ByteArray) (k : Nat) (h : k < s.size) : (letters s)[k]'(by rw [letters_len]; exact h) = s[k].toNat := by
  simp only [letters, List.getElem_map, Array.getElem_toList]
  rfl
theorem tab_letters : ∀ f ∈ tab, (∀ c ∈ letters f.follows, isLetter c = true) ∧ f.follows.size ≤ 2 := by
  intro f hf
  have : tab.all (fun f => (letters f.follows).all isLetter && decide (f.follows.size ≤ 2)) = true := by decide +kernel
  have h := (List.all_eq_true.1 this) f hf
  simp only [Bool.and_eq_true, decide_eq_true_eq] at h
  exact ⟨fun c hc => (List.all_eq_true.1 h.1) c hc, h.2⟩

/-- Numbers as cells; the low bytes of a number, the lowest one first. -/
def ints (l : List Int) : List Value := l.map (Value.int .i64)
def dv (x : Int) : Nat → Int
  | 0 => x
  | k + 1 => dv x k / 256
def bytesOf (x : Int) (k : Nat) : List Int := (List.range k).map fun j => dv x j % 256
theorem bytesOf_succ (x : Int) (k : Nat) : bytesOf x (k + 1) = bytesOf x k ++ [dv x k % 256] := by simp [bytesOf, List.range_succ]
theorem bytesOf_len (x : Int) (k : Nat) : (bytesOf x k).length = k := by simp [bytesOf]
theorem dv_bd (x : Int) (h0 : -9223372036854775808 ≤ x) (h1 : x ≤ 9223372036854775807) (k : Nat) : -9223372036854775808 ≤ dv x k ∧ dv x k ≤ 9223372036854775807 := by
  induction k with
  | zero => exact ⟨h0, h1⟩
  | succ k ih => simp only [dv]; omega
/-- What stands for a letter: the number, whether it is near enough. -/
def letterNum (c : Nat) (i : IIns) (next : Int) : Int := if c = 114 then 16 * i.a + i.b else if c = 116 then i.b else if c = 110 then i.n - next else i.n
def letterFit (c : Nat) (i : IIns) (next : Int) : Bool := if c = 110 then inR 6 (i.n - next) else true
def letterPut (i : IIns) (next : Int) (c : Nat) : List Int := bytesOf (letterNum c i next) (letterLong c).toNat
def firstByte (f : IForm) (i : IIns) : Int := if f.added = 1 then f.first + i.a else if f.added = 2 then f.first + i.b else f.first
def putList (l : List Nat) (i : IIns) (next : Int) : List Int := l.flatMap (letterPut i next)
theorem letterPut_len (i : IIns) (next : Int) (c : Nat) : ((letterPut i next c).length : Int) = letterLong c := by
  rw [letterPut, bytesOf_len]
  unfold letterLong
  split <;> rfl
theorem putList_len (l : List Nat) (i : IIns) (next : Int) : ((putList l i next).length : Int) + 1 = longOf l := by
  induction l with
  | nil => rfl
  | cons c l ih =>
    have h := letterPut_len i next c
    simp only [putList, List.flatMap_cons, List.length_append, longOf, List.map_cons, List.sum_cons] at ih ⊢
    omega
theorem putList_succ (l : List Nat) (i : IIns) (next : Int) (k : Nat) (h : k < l.length) : putList (l.take (k + 1)) i next = putList (l.take k) i next ++ letterPut i next l[k] := by
  unfold putList
  rw [List.take_succ_eq_append_getElem h, List.flatMap_append, List.flatMap_singleton]
end Go.Proofs.YtgenojpdjplccaaDoor.Ft
namespace Go.Proofs.YtgenojpdjplccaaDoor.Ft
open Go.RowKit Pl

def formOf (i : IIns) : Option IForm := tab.find? (takes · i)
def takesN (f : IForm) (i : IIns) : Bool := inR f.a i.a && (inR f.b i.b && inR f.n i.n)
theorem formOf_op (i : IIns) : formOf i = (tab.filter (fun f => i.op == f.op)).find? (takesN · i) := by
  rw [List.find?_filter]
  unfold formOf
  congr 1
  funext f
  simp only [takes, takesN]
  cases h : i.op == f.op <;> simp_all
theorem op31 {op : Int} (h0 : 0 ≤ op) (h1 : op ≤ 30) : op = 0 ∨ op = 1 ∨ op = 2 ∨ op = 3 ∨ op = 4 ∨ op = 5 ∨ op = 6 ∨ op = 7 ∨ op = 8 ∨ op = 9 ∨ op = 10 ∨ op = 11 ∨ op = 12 ∨ op = 13 ∨ op = 14 ∨ op = 15 ∨ op = 16 ∨ op = 17 ∨ op = 18 ∨ op = 19 ∨ op = 20 ∨ op = 21 ∨ op = 22 ∨ op = 23 ∨ op = 24 ∨ op = 25 ∨ op = 26 ∨ op = 27 ∨ op = 28 ∨ op = 29 ∨ op = 30 := by omega
theorem tab_ops : ∀ f ∈ tab, 0 ≤ f.op ∧ f.op ≤ 30 := by
  intro f hf
  have : tab.all (fun f => decide (0 ≤ f.op ∧ f.op ≤ 30)) = true := by decide +kernel
  simpa using (List.all_eq_true.1 this) f hf
theorem formOf_mem {i : IIns} {f : IForm} (h : formOf i = some f) : f ∈ tab ∧ takes f i = true := ⟨List.mem_of_find?_eq_some h, by simpa using List.find?_some h⟩
set_option maxHeartbeats 1000000 in
theorem some_valid (i : IIns) : (formOf i).isSome = validIns i := by
  obtain ⟨op, a, b, n⟩ := i
  by_cases h : 0 ≤ op ∧ op ≤ 30
  · obtain ⟨h0, h1⟩ := h
    rw [formOf_op]
    rcases op31 h0 h1 with rfl | rfl | rfl | rfl | rfl | rfl | rfl | rfl | rfl | rfl | rfl | rfl | rfl | rfl | rfl | rfl | rfl | rfl | rfl | rfl | rfl | rfl | rfl | rfl | rfl | rfl | rfl | rfl | rfl | rfl | rfl
    all_goals
      clear h0 h1
      rcases (by omega : a = 0 ∨ a = 1 ∨ (a ≠ 0 ∧ a ≠ 1)) with rfl | rfl | ⟨a0, a1⟩ <;>
      simp [tab, List.filter, List.find?, takesN, inR, lo, hi, validIns, validAt, inRange, stab] <;>
      (first | (rw [Bool.eq_iff_iff]; (repeat' split) <;> simp <;> omega) | (split <;> simp_all; done) | (split <;> (try split) <;> simp_all <;> omega))
  · have hv : validIns ⟨op, a, b, n⟩ = false := by
      have : inRange op 0 30 = false := by simp only [inRange]; simp; omega
      simp [validIns, this]
    rw [hv]
    cases hf : formOf ⟨op, a, b, n⟩ with
    | none => rfl
    | some f =>
      obtain ⟨hm, ht⟩ := formOf_mem hf
      have h2 := tab_ops f hm
      have h3 : op = f.op := by
        simp only [takes, Bool.and_eq_true, beq_iff_eq] at ht
        exact ht.1
      omega
end Go.Proofs.YtgenojpdjplccaaDoor.Ft
namespace Go.Proofs.YtgenojpdjplccaaDoor.Ft
open Go.RowKit Pl

def isJump (i : IIns) : Bool := i.op == 27 || i.op == 28
def slong (i : IIns) : Int := if (isJump i && i.a == 1) = true then 3 else longOf (letters (stab.getD i.op.toNat .none).rest)
theorem takes_iff {f : IForm} {i : IIns} : takes f i = true ↔ i.op = f.op ∧ (lo f.a ≤ i.a ∧ i.a ≤ hi f.a) ∧ (lo f.b ≤ i.b ∧ i.b ≤ hi f.b) ∧ (lo f.n ≤ i.n ∧ i.n ≤ hi f.n) := by
  simp [takes, inR]
theorem tab_cases (P : IForm → Prop) (h : ∀ k, k < 33 → P (tab.getD k .none)) : ∀ f ∈ tab, P f := by
  intro f hf
  obtain ⟨k, hk, e⟩ := List.mem_iff_getElem.1 hf
  have hl : tab.length = 33 := by decide +kernel
  have := h k (by omega)
  rw [List.getD_eq_getElem?_getD, List.getElem?_eq_getElem hk] at this
  rw [← e]
  exact this
theorem long_eq {i : IIns} {f : IForm} (h : formOf i = some f) : longOf (letters f.follows) = slong i := by
  obtain ⟨hm, ht⟩ := formOf_mem h
  clear h
  have ht := takes_iff.1 ht
  obtain ⟨op, a, b, n⟩ := i
  simp only at ht
  have key : f ∈ tab → op = f.op → lo f.a ≤ a → a ≤ hi f.a → longOf (letters f.follows) = slong ⟨op, a, b, n⟩ := by
    intro hm
    simp only [tab, List.mem_cons, List.not_mem_nil, or_false] at hm
    rcases hm with rfl | rfl | rfl | rfl | rfl | rfl | rfl | rfl | rfl | rfl | rfl | rfl | rfl | rfl | rfl | rfl | rfl | rfl | rfl | rfl | rfl | rfl | rfl | rfl | rfl | rfl | rfl | rfl | rfl | rfl | rfl | rfl | rfl
    all_goals
      intro hop ha1 ha2
      simp only at hop ha1 ha2
      simp only [lo, hi] at ha1 ha2
      simp at ha1 ha2
      subst hop
      first
      | (simp [slong, isJump, stab, longOf, letters, letterLong]; done)
      | (by_cases h0 : a = 0
         · subst h0
           first | (exfalso; omega) | simp [slong, isJump, stab, longOf, letters, letterLong]
         · by_cases h1 : a = 1
           · subst h1
             first | (exfalso; omega) | simp [slong, isJump, stab, longOf, letters, letterLong]
           · exfalso; omega)
  exact key hm ht.1 ht.2.1.1 ht.2.1.2
structure Bounds (i : IIns) (f : IForm) : Prop where
  f0 : 0 ≤ f.first
  f1 : f.first ≤ 131
  a0 : 0 ≤ i.a
  a1 : i.a ≤ 3
  b0 : 0 ≤ i.b
  b1 : i.b ≤ 8
  n0 : -128 ≤ i.n
  n1 : i.n ≤ 65535
  lets : ∀ c ∈ letters f.follows, isLetter c = true
  size : f.follows.size ≤ 2
theorem form_bounds {i : IIns} {f : IForm} (h : formOf i = some f) : Bounds i f := by
  obtain ⟨hm, ht⟩ := formOf_mem h
  have hl := tab_letters f hm
  have hx : tab.all (fun f => decide (0 ≤ f.first ∧ f.first ≤ 131 ∧ 0 ≤ lo f.a ∧ hi f.a ≤ 3 ∧ 0 ≤ lo f.b ∧ hi f.b ≤ 8 ∧ -128 ≤ lo f.n ∧ hi f.n ≤ 65535)) = true := by decide +kernel
  have hy := (List.all_eq_true.1 hx) f hm
  simp only [decide_eq_true_eq] at hy
  have ht := takes_iff.1 ht
  exact ⟨by omega, by omega, by omega, by omega, by omega, by omega, by omega, by omega, hl.1, hl.2⟩
/-- What InsPut answers. -/
def insPut (i : IIns) (at_ : Int) : Option (List Int) :=
  match formOf i with
  | none => none
  | some f => if inR 8 at_ = true then (if (letters f.follows).all (fun c => letterFit c i (at_ + longOf (letters f.follows))) = true then some (firstByte f i :: putList (letters f.follows) i (at_ + longOf (letters f.follows))) else none) else none
structure SBounds (i : IIns) (f : SForm) : Prop where
  o0 : 0 ≤ i.op
  o1 : i.op ≤ 30
  f0 : 0 ≤ f.first
  f1 : f.first ≤ 131
  a0 : 0 ≤ i.a
  a1 : i.a ≤ 3
  b0 : 0 ≤ i.b
  b1 : i.b ≤ 8
  n0 : -128 ≤ i.n
  n1 : i.n ≤ 65535
  lets : ∀ c ∈ letters f.rest, isLetter c = true ∧ (c = 119 → 0 ≤ i.n)
  size : f.rest.size ≤ 2
  far : isJump i = true → 0 ≤ i.n
theorem valid_bounds {i : IIns} (h : validIns i = true) : SBounds i (stab.getD i.op.toNat .none) := by
  obtain ⟨op, a, b, n⟩ := i
  simp only [validIns, Bool.and_eq_true] at h
  obtain ⟨ho, hv⟩ := h
  have ho' : 0 ≤ op ∧ op ≤ 30 := by simpa [inRange] using ho
  obtain ⟨k, rfl⟩ := Int.eq_ofNat_of_zero_le ho'.1
  have hk : k ≤ 30 := by omega
  have hx : ∀ k, k ≤ 30 → (let f := stab.getD k .none; 0 ≤ f.first ∧ f.first ≤ 131 ∧ f.a ≤ 3 ∧ f.b ≤ 8 ∧ -128 ≤ f.low ∧ f.high ≤ 65535 ∧ f.rest.size ≤ 2 ∧ (letters f.rest).all isLetter = true ∧ ((letters f.rest).contains 119 = true → 0 ≤ f.low) ∧ (k = 27 ∨ k = 28 → 0 ≤ f.low)) := by decide +kernel
  have hy := hx k hk
  simp only at hy
  have e : ((k : Int)).toNat = k := by simp
  simp only [e] at hv ⊢
  obtain ⟨y1, y2, y3, y4, y5, y6, y7, y8, y9, y10⟩ := hy
  simp only [validAt, inRange, Bool.and_eq_true, decide_eq_true_eq] at hv
  refine ⟨by simp only; omega, by simp only; omega, y1, y2, by simp only; omega, by simp only; omega, by simp only; omega, by simp only; omega, by simp only; omega, by simp only; omega, ?_, y7, ?_⟩
  · intro c hc
    refine ⟨List.all_eq_true.1 y8 c hc, ?_⟩
    rintro rfl
    have := y9 (by simpa using hc)
    simp only
    omega
  · intro hj
    simp only [isJump, Bool.or_eq_true, beq_iff_eq] at hj
    have := y10 (by omega)
    simp only
    omega
def sfirst (f : SForm) (i : IIns) : Int := if f.plus = 97 then f.first + i.a else if f.plus = 98 then f.first + i.b else f.first
/-- What the model's put answers. -/
def sput (i : IIns) (at_ : Int) : Option (List Int) :=
  let f := stab.getD i.op.toNat .none
  if (isJump i && i.a == 1) = true then some [sfirst f i + 8, i.n % 256, i.n / 256]
  else if (letters f.rest).all (fun c => letterFit c i (at_ + 2)) = true then some (sfirst f i :: putList (letters f.rest) i (at_ + 2)) else none
theorem bytes1 (x : Int) : bytesOf x 1 = [x % 256] := rfl
theorem bytes2 (x : Int) : bytesOf x 2 = [x % 256, x / 256 % 256] := rfl
theorem letterPut_r {i : IIns} (next : Int) (h0 : 0 ≤ i.a) (h1 : i.a ≤ 3) (h2 : 0 ≤ i.b) (h3 : i.b ≤ 8) : [i.a * 16 + i.b] = letterPut i next 114 := by
  have e : letterPut i next 114 = [(16 * i.a + i.b) % 256] := bytes1 _
  rw [e]
  congr 1
  omega
theorem letterPut_b {i : IIns} (next : Int) : [i.n % 256] = letterPut i next 98 := rfl
theorem letterPut_s {i : IIns} (next : Int) : [i.n % 256] = letterPut i next 115 := rfl
theorem letterPut_w {i : IIns} (next : Int) (h0 : 0 ≤ i.n) (h1 : i.n ≤ 65535) : [i.n % 256, i.n / 256] = letterPut i next 119 := by
  have e : letterPut i next 119 = [i.n % 256, i.n / 256 % 256] := bytes2 _
  rw [e]
  congr 2
  omega
theorem letterPut_t {i : IIns} (next : Int) (h2 : 0 ≤ i.b) (h3 : i.b ≤ 8) : [i.b] = letterPut i next 116 := by
  have e : letterPut i next 116 = [i.b % 256] := bytes1 _
  rw [e]
  congr 1
  omega
theorem letterPut_j {i : IIns} (next x : Int) (h : x = i.n - next) : [x % 256] = letterPut i next 110 := by
  subst h
  rfl
end Go.Proofs.YtgenojpdjplccaaDoor.Ft
namespace Go.Proofs.YtgenojpdjplccaaDoor.Ft
open Go.RowKit Pl

theorem inR8 (x : Int) : inR 8 x = inRange x 0 1999 := by simp [inR, inRange, lo, hi]
set_option maxHeartbeats 1000000 in
theorem sput_some {i : IIns} {f : IForm} (h : formOf i = some f) (at_ : Int) (hin : inRange at_ 0 1999 = true) : sput i at_ = insPut i at_ := by
  have hbd := form_bounds h
  have hpi : insPut i at_ = (if (letters f.follows).all (fun c => letterFit c i (at_ + longOf (letters f.follows))) = true then some (firstByte f i :: putList (letters f.follows) i (at_ + longOf (letters f.follows))) else none) := by
    simp only [insPut, h]
    rw [inR8, if_pos hin]
  rw [hpi]
  obtain ⟨hm, ht⟩ := formOf_mem h
  have ht := takes_iff.1 ht
  clear hpi h hin
  obtain ⟨op, a, b, n⟩ := i
  have n0 := hbd.n0
  have n1 := hbd.n1
  have key : f ∈ tab → op = f.op → lo f.a ≤ a → a ≤ hi f.a → lo f.n ≤ n → n ≤ hi f.n → sput ⟨op, a, b, n⟩ at_ = (if (letters f.follows).all (fun c => letterFit c ⟨op, a, b, n⟩ (at_ + longOf (letters f.follows))) = true then some (firstByte f ⟨op, a, b, n⟩ :: putList (letters f.follows) ⟨op, a, b, n⟩ (at_ + longOf (letters f.follows))) else none) := by
    clear hm hbd ht
    intro hm
    simp only [tab, List.mem_cons, List.not_mem_nil, or_false] at hm
    rcases hm with rfl | rfl | rfl | rfl | rfl | rfl | rfl | rfl | rfl | rfl | rfl | rfl | rfl | rfl | rfl | rfl | rfl | rfl | rfl | rfl | rfl | rfl | rfl | rfl | rfl | rfl | rfl | rfl | rfl | rfl | rfl | rfl | rfl
    all_goals
      intro hop ha1 ha2 hn1 hn2
      simp only at hop ha1 ha2 hn1 hn2
      simp only [lo, hi] at ha1 ha2 hn1 hn2
      simp at ha1 ha2 hn1 hn2
      subst hop
      first
      | rfl
      | (by_cases h0 : a = 0
         · subst h0
           first
           | (exfalso; omega)
           | rfl
           | (simp [sput, isJump, stab, longOf, letters, letterLong, letterFit, putList, letterPut, bytesOf, dv, letterNum, firstByte, sfirst, List.range, List.range.loop]; done)
         · by_cases h1 : a = 1
           · subst h1
             first
             | (exfalso; omega)
             | (simp [sput, isJump, stab, longOf, letters, letterLong, letterFit, putList, letterPut, bytesOf, dv, letterNum, firstByte, sfirst, List.range, List.range.loop]; omega)
           · exfalso; omega)
  exact key hm ht.1 ht.2.1.1 ht.2.1.2 ht.2.2.2.1 ht.2.2.2.2
theorem sput_eq (i : IIns) (at_ : Int) : (if (validIns i && inRange at_ 0 1999) = true then sput i at_ else none) = insPut i at_ := by
  cases hf : formOf i with
  | none =>
    have hv : validIns i = false := by rw [← some_valid, hf]; rfl
    simp [hv, insPut, hf]
  | some f =>
    have hv : validIns i = true := by rw [← some_valid, hf]; rfl
    cases hin : inRange at_ 0 1999
    · simp [insPut, hf, inR8, hin]
    · simp [hv, sput_some hf at_ hin]
end Go.Proofs.YtgenojpdjplccaaDoor.Ft
