/- The table of instructions as the program lays it: rows of numbers and texts. No call is spoken of here. -/
import Derived.Test.YtcpkkedhgmnonaaDoorPlain
set_option linter.unusedSimpArgs false
set_option linter.unusedVariables false
namespace Go.Proofs.YtcpkkedhgmnonaaDoor.Ft
open Go.RowKit Pl

/-- A row of the table: kind, first byte, what is added, the ranges of A, B and N, what follows, the text. -/
structure IForm where
  op : Int
  first : Int
  added : Int
  a : Int
  b : Int
  n : Int
  follows : ByteArray
  text : ByteArray
def IForm.cells (f : IForm) : List Value := [.int .i64 f.op, .int .i64 f.first, .int .i64 f.added, .int .i64 f.a, .int .i64 f.b, .int .i64 f.n, .string f.follows, .string f.text]
def IForm.val (f : IForm) : Value := .agg #[.int .i64 f.op, .int .i64 f.first, .int .i64 f.added, .int .i64 f.a, .int .i64 f.b, .int .i64 f.n, .string f.follows, .string f.text]
def IForm.none : IForm := ⟨0, 0, 0, 0, 0, 0, ⟨#[]⟩, ⟨#[]⟩⟩
def tab : List IForm :=
  [⟨0, 0, 0, 0, 0, 0, ⟨#[]⟩, ⟨#[104, 97, 108, 116]⟩⟩,
   ⟨1, 1, 0, 0, 0, 0, ⟨#[]⟩, ⟨#[114, 101, 116]⟩⟩,
   ⟨2, 2, 0, 0, 0, 0, ⟨#[]⟩, ⟨#[110, 111, 112]⟩⟩,
   ⟨3, 16, 1, 2, 0, 0, ⟨#[]⟩, ⟨#[112, 117, 115, 104, 32, 114, 65]⟩⟩,
   ⟨4, 20, 1, 2, 0, 0, ⟨#[]⟩, ⟨#[112, 111, 112, 32, 114, 65]⟩⟩,
   ⟨5, 24, 1, 2, 0, 0, ⟨#[]⟩, ⟨#[111, 117, 116, 32, 114, 65]⟩⟩,
   ⟨6, 28, 1, 2, 0, 0, ⟨#[]⟩, ⟨#[105, 110, 32, 114, 65]⟩⟩,
   ⟨7, 32, 0, 2, 2, 0, ⟨#[114]⟩, ⟨#[109, 111, 118, 101, 32, 114, 65, 32, 114, 66]⟩⟩,
   ⟨8, 33, 0, 2, 2, 0, ⟨#[114]⟩, ⟨#[108, 111, 119, 32, 114, 65, 32, 114, 66]⟩⟩,
   ⟨9, 34, 0, 2, 2, 0, ⟨#[114]⟩, ⟨#[97, 100, 100, 32, 114, 65, 32, 114, 66]⟩⟩,
   ⟨10, 35, 0, 2, 2, 0, ⟨#[114]⟩, ⟨#[115, 117, 98, 32, 114, 65, 32, 114, 66]⟩⟩,
   ⟨11, 36, 0, 2, 2, 0, ⟨#[114]⟩, ⟨#[109, 117, 108, 32, 114, 65, 32, 114, 66]⟩⟩,
   ⟨12, 37, 0, 2, 2, 0, ⟨#[114]⟩, ⟨#[97, 110, 100, 32, 114, 65, 32, 114, 66]⟩⟩,
   ⟨13, 38, 0, 2, 2, 0, ⟨#[114]⟩, ⟨#[111, 114, 32, 114, 65, 32, 114, 66]⟩⟩,
   ⟨14, 39, 0, 2, 2, 0, ⟨#[114]⟩, ⟨#[120, 111, 114, 32, 114, 65, 32, 114, 66]⟩⟩,
   ⟨15, 40, 0, 2, 2, 0, ⟨#[114]⟩, ⟨#[99, 109, 112, 32, 114, 65, 32, 114, 66]⟩⟩,
   ⟨16, 48, 1, 2, 0, 5, ⟨#[119]⟩, ⟨#[115, 101, 116, 32, 114, 65, 32, 78]⟩⟩,
   ⟨17, 52, 1, 2, 0, 6, ⟨#[115]⟩, ⟨#[97, 100, 100, 110, 32, 114, 65, 32, 78]⟩⟩,
   ⟨18, 56, 1, 2, 0, 6, ⟨#[115]⟩, ⟨#[99, 109, 112, 110, 32, 114, 65, 32, 78]⟩⟩,
   ⟨19, 64, 0, 2, 2, 7, ⟨#[114, 98]⟩, ⟨#[108, 111, 97, 100, 32, 114, 65, 32, 114, 66, 32, 78]⟩⟩,
   ⟨20, 65, 0, 2, 2, 7, ⟨#[114, 98]⟩, ⟨#[115, 116, 111, 114, 101, 32, 114, 65, 32, 114, 66, 32, 78]⟩⟩,
   ⟨21, 66, 0, 2, 2, 7, ⟨#[114, 98]⟩, ⟨#[108, 111, 97, 100, 98, 32, 114, 65, 32, 114, 66, 32, 78]⟩⟩,
   ⟨22, 67, 0, 2, 2, 7, ⟨#[114, 98]⟩, ⟨#[115, 116, 111, 114, 101, 98, 32, 114, 65, 32, 114, 66, 32, 78]⟩⟩,
   ⟨23, 130, 0, 2, 0, 7, ⟨#[114, 98]⟩, ⟨#[108, 111, 99, 97, 108, 32, 114, 65, 32, 78]⟩⟩,
   ⟨24, 131, 0, 2, 0, 7, ⟨#[114, 98]⟩, ⟨#[107, 101, 101, 112, 32, 114, 65, 32, 78]⟩⟩,
   ⟨25, 128, 0, 0, 0, 7, ⟨#[98]⟩, ⟨#[103, 114, 111, 119, 32, 78]⟩⟩,
   ⟨26, 129, 0, 0, 0, 7, ⟨#[98]⟩, ⟨#[100, 114, 111, 112, 32, 78]⟩⟩,
   ⟨27, 80, 0, 0, 0, 8, ⟨#[110]⟩, ⟨#[106, 117, 109, 112, 32, 78]⟩⟩,
   ⟨27, 88, 0, 1, 0, 8, ⟨#[119]⟩, ⟨#[106, 117, 109, 112, 32, 102, 97, 114, 32, 78]⟩⟩,
   ⟨28, 81, 2, 0, 3, 8, ⟨#[110]⟩, ⟨#[105, 102, 32, 67, 32, 78]⟩⟩,
   ⟨28, 89, 2, 1, 3, 8, ⟨#[119]⟩, ⟨#[105, 102, 32, 67, 32, 102, 97, 114, 32, 78]⟩⟩,
   ⟨29, 96, 0, 0, 0, 8, ⟨#[119]⟩, ⟨#[99, 97, 108, 108, 32, 78]⟩⟩,
   ⟨30, 112, 1, 2, 4, 8, ⟨#[116, 119]⟩, ⟨#[116, 97, 98, 108, 101, 32, 114, 65, 32, 66, 32, 78]⟩⟩]
def tabCells : Array Value := (tab.flatMap IForm.cells).toArray
def tabZero : Array Value := ((List.replicate 33 IForm.none).flatMap IForm.cells).toArray

/-- The ends of a range. -/
def lo (r : Int) : Int := if r = 1 then 1 else if r = 4 then 1 else if r = 6 then -128 else 0
def hi (r : Int) : Int := if r = 1 then 1 else if r = 2 then 3 else if r = 3 then 5 else if r = 4 then 8 else if r = 5 then 65535 else if r = 6 then 127 else if r = 7 then 255 else if r = 8 then 1999 else 0
def inR (r n : Int) : Bool := decide (lo r ≤ n) && decide (n ≤ hi r)
/-- Four numbers of an instruction. -/
structure IIns where
  op : Int
  a : Int
  b : Int
  n : Int
deriving DecidableEq
def IIns.val (i : IIns) : Value := .agg #[.int .i64 i.op, .int .i64 i.a, .int .i64 i.b, .int .i64 i.n]
def takes (f : IForm) (i : IIns) : Bool := i.op == f.op && (inR f.a i.a && (inR f.b i.b && inR f.n i.n))

/-- A row of the model's own table: first byte, what is added, the greatest A and B, the ends of N, what follows. -/
structure SForm where
  first : Int
  plus : Int
  a : Int
  b : Int
  low : Int
  high : Int
  rest : ByteArray
def SForm.cells (f : SForm) : List Value := [.int .i64 f.first, .int .u8 f.plus, .int .i64 f.a, .int .i64 f.b, .int .i64 f.low, .int .i64 f.high, .string f.rest]
def SForm.none : SForm := ⟨0, 0, 0, 0, 0, 0, ⟨#[]⟩⟩
def stab : List SForm :=
  [⟨0, 45, 0, 0, 0, 0, ⟨#[]⟩⟩,
   ⟨1, 45, 0, 0, 0, 0, ⟨#[]⟩⟩,
   ⟨2, 45, 0, 0, 0, 0, ⟨#[]⟩⟩,
   ⟨16, 97, 3, 0, 0, 0, ⟨#[]⟩⟩,
   ⟨20, 97, 3, 0, 0, 0, ⟨#[]⟩⟩,
   ⟨24, 97, 3, 0, 0, 0, ⟨#[]⟩⟩,
   ⟨28, 97, 3, 0, 0, 0, ⟨#[]⟩⟩,
   ⟨32, 45, 3, 3, 0, 0, ⟨#[114]⟩⟩,
   ⟨33, 45, 3, 3, 0, 0, ⟨#[114]⟩⟩,
   ⟨34, 45, 3, 3, 0, 0, ⟨#[114]⟩⟩,
   ⟨35, 45, 3, 3, 0, 0, ⟨#[114]⟩⟩,
   ⟨36, 45, 3, 3, 0, 0, ⟨#[114]⟩⟩,
   ⟨37, 45, 3, 3, 0, 0, ⟨#[114]⟩⟩,
   ⟨38, 45, 3, 3, 0, 0, ⟨#[114]⟩⟩,
   ⟨39, 45, 3, 3, 0, 0, ⟨#[114]⟩⟩,
   ⟨40, 45, 3, 3, 0, 0, ⟨#[114]⟩⟩,
   ⟨48, 97, 3, 0, 0, 65535, ⟨#[119]⟩⟩,
   ⟨52, 97, 3, 0, -128, 127, ⟨#[115]⟩⟩,
   ⟨56, 97, 3, 0, -128, 127, ⟨#[115]⟩⟩,
   ⟨64, 45, 3, 3, 0, 255, ⟨#[114, 98]⟩⟩,
   ⟨65, 45, 3, 3, 0, 255, ⟨#[114, 98]⟩⟩,
   ⟨66, 45, 3, 3, 0, 255, ⟨#[114, 98]⟩⟩,
   ⟨67, 45, 3, 3, 0, 255, ⟨#[114, 98]⟩⟩,
   ⟨130, 45, 3, 0, 0, 255, ⟨#[114, 98]⟩⟩,
   ⟨131, 45, 3, 0, 0, 255, ⟨#[114, 98]⟩⟩,
   ⟨128, 45, 0, 0, 0, 255, ⟨#[98]⟩⟩,
   ⟨129, 45, 0, 0, 0, 255, ⟨#[98]⟩⟩,
   ⟨80, 45, 1, 0, 0, 1999, ⟨#[110]⟩⟩,
   ⟨81, 98, 1, 5, 0, 1999, ⟨#[110]⟩⟩,
   ⟨96, 45, 0, 0, 0, 1999, ⟨#[119]⟩⟩,
   ⟨112, 97, 3, 8, 0, 1999, ⟨#[116, 119]⟩⟩]
def stwo (k : Nat) : SForm := ⟨32 + k, 45, 3, 3, 0, 0, ⟨#[114]⟩⟩
/-- Whether four numbers are an instruction, by the model. -/
def inRange (n l h : Int) : Bool := decide (l ≤ n ∧ n ≤ h)
def validAt (f : SForm) (i : IIns) : Bool := inRange i.a 0 f.a && (inRange i.b 0 f.b && (inRange i.n f.low f.high && (!(i.op == 30) || decide (0 < i.b))))
def validIns (i : IIns) : Bool := inRange i.op 0 30 && validAt (stab.getD i.op.toNat .none) i

/-- The letters of what follows, and how many bytes each stands for. -/
def isLetter (c : Nat) : Bool := c == 114 || c == 98 || c == 115 || c == 119 || c == 116 || c == 110
def letterLong (c : Nat) : Int := if c = 119 then 2 else 1
def letters (s : ByteArray) : List Nat := s.data.toList.map (·.toNat)
def longOf (l : List Nat) : Int := 1 + (l.map letterLong).sum
theorem longOf_succ (l : List Nat) (k : Nat) (h : k < l.length) : longOf (l.take (k + 1)) = longOf (l.take k) + letterLong l[k] := by
  rw [List.take_succ_eq_append_getElem h]
  simp only [longOf, List.map_append, List.sum_append, List.map_cons, List.map_nil, List.sum_cons, List.sum_nil]
  omega
theorem longOf_bd (l : List Nat) : 1 ≤ longOf l ∧ longOf l ≤ 1 + 2 * l.length := by
  unfold longOf
  induction l with
  | nil => simp
  | cons c l ih =>
    simp only [List.map_cons, List.sum_cons, List.length_cons]
    have : 1 ≤ letterLong c ∧ letterLong c ≤ 2 := by unfold letterLong; split <;> omega
    omega
theorem letters_len (s : ByteArray) : (letters s).length = s.size := by rw [letters, List.length_map, Array.length_toList]; rfl
theorem letters_get (s : ByteArray) (k : Nat) (h : k < s.size) : (letters s)[k]'(by rw [letters_len]; exact h) = s[k].toNat := by
  simp only [letters, List.getElem_map, Array.getElem_toList]
  rfl
theorem tab_letters : ∀ f ∈ tab, (∀ c ∈ letters f.follows, isLetter c = true) ∧ f.follows.size ≤ 2 := by
  intro f hf
  have : tab.all (fun f => (letters f.follows).all isLetter && decide (f.follows.size ≤ 2)) = true := by decide +kernel
  have h := (List.all_eq_true.1 this) f hf
  simp only [Bool.and_eq_true, decide_eq_true_eq] at h
  exact ⟨fun c hc => (List.all_eq_true.1 h.1) c hc, h.2⟩

/-- Numbers as cells; the low bytes of a number, the lowest one first. -/
def ints (l : List Int) : List Value := l.map (Value.int .i64)
def dv (x : Int) : Nat → Int
  | 0 => x
  | k + 1 => dv x k / 256
def bytesOf (x : Int) (k : Nat) : List Int := (List.range k).map fun j => dv x j % 256
theorem bytesOf_succ (x : Int) (k : Nat) : bytesOf x (k + 1) = bytesOf x k ++ [dv x k % 256] := by simp [bytesOf, List.range_succ]
theorem bytesOf_len (x : Int) (k : Nat) : (bytesOf x k).length = k := by simp [bytesOf]
theorem dv_bd (x : Int) (h0 : -9223372036854775808 ≤ x) (h1 : x ≤ 9223372036854775807) (k : Nat) : -9223372036854775808 ≤ dv x k ∧ dv x k ≤ 9223372036854775807 := by
  induction k with
  | zero => exact ⟨h0, h1⟩
  | succ k ih => simp only [dv]; omega
/-- What stands for a letter: the number, whether it is near enough. -/
def letterNum (c : Nat) (i : IIns) (next : Int) : Int := if c = 114 then 16 * i.a + i.b else if c = 116 then i.b else if c = 110 then i.n - next else i.n
def letterFit (c : Nat) (i : IIns) (next : Int) : Bool := if c = 110 then inR 6 (i.n - next) else true
def letterPut (i : IIns) (next : Int) (c : Nat) : List Int := bytesOf (letterNum c i next) (letterLong c).toNat
def firstByte (f : IForm) (i : IIns) : Int := if f.added = 1 then f.first + i.a else if f.added = 2 then f.first + i.b else f.first
def putList (l : List Nat) (i : IIns) (next : Int) : List Int := l.flatMap (letterPut i next)
theorem letterPut_len (i : IIns) (next : Int) (c : Nat) : ((letterPut i next c).length : Int) = letterLong c := by
  rw [letterPut, bytesOf_len]
  unfold letterLong
  split <;> rfl
theorem putList_len (l : List Nat) (i : IIns) (next : Int) : ((putList l i next).length : Int) + 1 = longOf l := by
  induction l with
  | nil => rfl
  | cons c l ih =>
    have h := letterPut_len i next c
    simp only [putList, List.flatMap_cons, List.length_append, longOf, List.map_cons, List.sum_cons] at ih ⊢
    omega
theorem putList_succ (l : List Nat) (i : IIns) (next : Int) (k : Nat) (h : k < l.length) : putList (l.take (k + 1)) i next = putList (l.take k) i next ++ letterPut i next l[k] := by
  unfold putList
  rw [List.take_succ_eq_append_getElem h, List.flatMap_append, List.flatMap_singleton]
end Go.Proofs.YtcpkkedhgmnonaaDoor.Ft
