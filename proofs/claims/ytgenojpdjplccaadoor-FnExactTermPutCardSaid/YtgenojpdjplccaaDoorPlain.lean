/- Plain facts on 64-bit integers' bits and on words: no program is spoken of here. -/
import Derived.WalkKit
set_option linter.unusedSimpArgs false
set_option linter.unusedVariables false
namespace Go.Proofs.YtgenojpdjplccaaDoor.Pl
open Go.RowKit

theorem and65535 (n : Int) : bits .and .i64 n 65535 = n % 65536 := by
  have hm : (BitVec.ofInt 64 65535).toNat = 2 ^ 16 - 1 := by decide
  have key : (BitVec.ofInt 64 n &&& BitVec.ofInt 64 65535).toNat = (n % ((2 ^ 64 : Nat) : Int)).toNat % 2 ^ 16 := by
    rw [BitVec.toNat_and, BitVec.toNat_ofInt, hm, Nat.and_two_pow_sub_one_eq_mod]
  show IntKind.i64.wrap ((BitVec.ofInt 64 n &&& BitVec.ofInt 64 65535).toNat : Nat) = n % 65536
  rw [key, IntKind.wrap_i64]
  omega

theorem ofInt_i64 (a : Nat) (ha : a < 65536) : (BitVec.ofInt 64 (a : Int)).toNat = a := by
  rw [BitVec.ofInt_natCast, BitVec.toNat_ofNat]; exact Nat.mod_eq_of_lt (by omega)

theorem and_nat (a b : Nat) (ha : a < 65536) (hb : b < 65536) : bits .and .i64 (a : Int) (b : Int) = ((a &&& b : Nat) : Int) := by
  have hx : a &&& b < 2 ^ 16 := Nat.and_lt_two_pow _ hb
  show IntKind.i64.wrap ((BitVec.ofInt 64 (a : Int) &&& BitVec.ofInt 64 (b : Int)).toNat : Int) = _
  rw [BitVec.toNat_and, ofInt_i64 _ ha, ofInt_i64 _ hb, IntKind.wrap_i64]
  omega
theorem or_nat (a b : Nat) (ha : a < 65536) (hb : b < 65536) : bits .or .i64 (a : Int) (b : Int) = ((a ||| b : Nat) : Int) := by
  have hx : a ||| b < 2 ^ 16 := Nat.or_lt_two_pow ha hb
  show IntKind.i64.wrap ((BitVec.ofInt 64 (a : Int) ||| BitVec.ofInt 64 (b : Int)).toNat : Int) = _
  rw [BitVec.toNat_or, ofInt_i64 _ ha, ofInt_i64 _ hb, IntKind.wrap_i64]
  omega
theorem xor_nat (a b : Nat) (ha : a < 65536) (hb : b < 65536) : bits .xor .i64 (a : Int) (b : Int) = ((a ^^^ b : Nat) : Int) := by
  have hx : a ^^^ b < 2 ^ 16 := Nat.xor_lt_two_pow ha hb
  show IntKind.i64.wrap ((BitVec.ofInt 64 (a : Int) ^^^ BitVec.ofInt 64 (b : Int)).toNat : Int) = _
  rw [BitVec.toNat_xor, ofInt_i64 _ ha, ofInt_i64 _ hb, IntKind.wrap_i64]
  omega
theorem and255 (n : Int) : bits .and .i64 n 255 = n % 256 := by
  have hm : (BitVec.ofInt 64 255).toNat = 2 ^ 8 - 1 := by decide
  have key : (BitVec.ofInt 64 n &&& BitVec.ofInt 64 255).toNat = (n % ((2 ^ 64 : Nat) : Int)).toNat % 2 ^ 8 := by
    rw [BitVec.toNat_and, BitVec.toNat_ofInt, hm, Nat.and_two_pow_sub_one_eq_mod]
  show IntKind.i64.wrap ((BitVec.ofInt 64 n &&& BitVec.ofInt 64 255).toNat : Nat) = n % 256
  rw [key, IntKind.wrap_i64]
  omega
theorem nat_high (a : Nat) (ha : a < 65536) : a &&& (2 ^ 64 - 1 - 255) = a / 256 * 256 := by
  apply Nat.eq_of_testBit_eq
  intro i
  rw [Nat.testBit_and]
  have h2 : (a / 256 * 256).testBit i = (decide (8 ≤ i) && a.testBit i) := by
    have : a / 256 * 256 = a / 2 ^ 8 * 2 ^ 8 := by rfl
    rw [this, Nat.testBit_mul_two_pow, Nat.testBit_div_two_pow]
    by_cases h : 8 ≤ i
    · simp [h]
    · simp [h]
  rw [h2]
  by_cases hi : i < 16
  · have : i = 0 ∨ i = 1 ∨ i = 2 ∨ i = 3 ∨ i = 4 ∨ i = 5 ∨ i = 6 ∨ i = 7 ∨ i = 8 ∨ i = 9 ∨ i = 10 ∨ i = 11 ∨ i = 12 ∨ i = 13 ∨ i = 14 ∨ i = 15 := by omega
    rcases this with rfl|rfl|rfl|rfl|rfl|rfl|rfl|rfl|rfl|rfl|rfl|rfl|rfl|rfl|rfl|rfl <;> (first | (simp; done) | (simp; intro _; decide))
  · have : a.testBit i = false := Nat.testBit_lt_two_pow (Nat.lt_of_lt_of_le ha (Nat.pow_le_pow_right (n := 2) (by decide) (by omega : 16 ≤ i)))
    simp [this]
theorem andNot255 (n : Int) (h0 : 0 ≤ n) (h1 : n ≤ 65535) : bits .andNot .i64 n 255 = n / 256 * 256 := by
  obtain ⟨a, rfl⟩ := Int.eq_ofNat_of_zero_le h0
  have ha : a < 65536 := by omega
  have hm : (~~~ (BitVec.ofInt 64 255)).toNat = 2 ^ 64 - 1 - 255 := by decide
  show IntKind.i64.wrap ((BitVec.ofInt 64 (a : Int) &&& ~~~ (BitVec.ofInt 64 255)).toNat : Nat) = _
  rw [BitVec.toNat_and, hm, ofInt_i64 a ha, nat_high a ha, IntKind.wrap_i64]
  omega
theorem wraps_i64 (n : Int) (h₀ : 0 ≤ n) (h₁ : n < 2 ^ 16) : IntKind.i64.wrap n = n := by rw [IntKind.wrap_i64]; omega
theorem low_put (a b : Int) (h0 : 0 ≤ a) (h1 : a ≤ 65535) : bits .or .i64 (bits .andNot .i64 a 255) (bits .and .i64 b 255) = a / 256 * 256 + b % 256 := by
  rw [andNot255 a h0 h1, and255 b]
  exact bits_join .i64 16 (by decide) wraps_i64 8 _ _ (by omega) (by omega) (by omega) (by omega) (by omega) (by omega)

theorem wrap_eq (n : Int) : (wrap64 (n.tmod 65536 + 65536)).tmod 65536 = n % 65536 := by
  have : n.tmod 65536 = n % 65536 ∨ n.tmod 65536 = n % 65536 - 65536 := by
    rw [Int.tmod_eq_emod]; split <;> simp
  rw [IntWalk.wrap64_in _ (by omega), Int.tmod_eq_emod_of_nonneg (by omega)]
  omega

theorem hid {p : Prop} (h : p) : RowKit.Hid p := h
theorem bcell {W w1 : World} (hb : RowKit.Below W.heap.size W w1) : (∀ b o, b < W.heap.size → w1.cell? ⟨b, o, none⟩ = W.cell? ⟨b, o, none⟩) ∧ (∀ b o, b < W.heap.size → w1.frozen? ⟨b, o, none⟩ = W.frozen? ⟨b, o, none⟩) :=
  ⟨fun b o h => hb.cell (p := ⟨b, o, none⟩) h, fun b o h => hb.frozen (p := ⟨b, o, none⟩) h⟩
theorem ret_eq {a b : Value} (h : a = b) : Ending.returned a = Ending.returned b := by rw [h]
theorem int_eq {a b : Int} (h : a = b) : Ending.returned (.int .i64 a) = Ending.returned (.int .i64 b) := by rw [h]
theorem bool_eq {a b : Bool} (h : a = b) : Ending.returned (.bool a) = Ending.returned (.bool b) := by rw [h]

/- Words. -/
def isW (n : Int) : Bool := decide (0 ≤ n ∧ n ≤ 65535)
theorem isW_iff {n : Int} : isW n = true ↔ 0 ≤ n ∧ n ≤ 65535 := by simp [isW]
theorem isW_mk {n : Int} (h0 : 0 ≤ n) (h1 : n ≤ 65535) : isW n = true := isW_iff.2 ⟨h0, h1⟩
theorem isW_no {n : Int} (h : isW n = false) : n < 0 ∨ 65535 < n := by simp [isW] at h; omega
def sg (n : Int) : Int := if 32768 ≤ n then n - 65536 else n
def signedOf (n : Int) : Int := if isW n then sg n else 0
def lowPut (a b : Int) : Int := if isW a && isW b then a / 256 * 256 + b % 256 else -1
def nand (a b : Int) : Int := ((a.toNat &&& b.toNat : Nat) : Int)
def nor (a b : Int) : Int := ((a.toNat ||| b.toNat : Nat) : Int)
def nxor (a b : Int) : Int := ((a.toNat ^^^ b.toNat : Nat) : Int)
def alu (op a b : Int) : Int := if op = 0 then (a + b) % 65536 else if op = 1 then (a - b) % 65536 else if op = 2 then (a * b) % 65536 else if op = 3 then nand a b else if op = 4 then nor a b else nxor a b
def aluDo (op a b : Int) : Int := if decide (0 ≤ op ∧ op ≤ 5) && (isW a && isW b) then alu op a b else -1
theorem nand_b (a b : Int) (ha : isW a = true) (hb : isW b = true) : bits .and .i64 a b = nand a b ∧ 0 ≤ nand a b ∧ nand a b ≤ 65535 := by
  obtain ⟨a0, a1⟩ := isW_iff.1 ha; obtain ⟨b0, b1⟩ := isW_iff.1 hb
  obtain ⟨x, rfl⟩ := Int.eq_ofNat_of_zero_le a0; obtain ⟨y, rfl⟩ := Int.eq_ofNat_of_zero_le b0
  have hx : x &&& y < 2 ^ 16 := Nat.and_lt_two_pow _ (by omega)
  refine ⟨?_, ?_, ?_⟩
  · rw [and_nat x y (by omega) (by omega)]; simp [nand]
  · simp only [nand]; omega
  · simp only [nand, Int.toNat_natCast]; omega
theorem nor_b (a b : Int) (ha : isW a = true) (hb : isW b = true) : bits .or .i64 a b = nor a b ∧ 0 ≤ nor a b ∧ nor a b ≤ 65535 := by
  obtain ⟨a0, a1⟩ := isW_iff.1 ha; obtain ⟨b0, b1⟩ := isW_iff.1 hb
  obtain ⟨x, rfl⟩ := Int.eq_ofNat_of_zero_le a0; obtain ⟨y, rfl⟩ := Int.eq_ofNat_of_zero_le b0
  have hx : x ||| y < 2 ^ 16 := Nat.or_lt_two_pow (by omega) (by omega)
  refine ⟨?_, ?_, ?_⟩
  · rw [or_nat x y (by omega) (by omega)]; simp [nor]
  · simp only [nor]; omega
  · simp only [nor, Int.toNat_natCast]; omega
theorem nxor_b (a b : Int) (ha : isW a = true) (hb : isW b = true) : bits .xor .i64 a b = nxor a b ∧ 0 ≤ nxor a b ∧ nxor a b ≤ 65535 := by
  obtain ⟨a0, a1⟩ := isW_iff.1 ha; obtain ⟨b0, b1⟩ := isW_iff.1 hb
  obtain ⟨x, rfl⟩ := Int.eq_ofNat_of_zero_le a0; obtain ⟨y, rfl⟩ := Int.eq_ofNat_of_zero_le b0
  have hx : x ^^^ y < 2 ^ 16 := Nat.xor_lt_two_pow (by omega) (by omega)
  refine ⟨?_, ?_, ?_⟩
  · rw [xor_nat x y (by omega) (by omega)]; simp [nxor]
  · simp only [nxor]; omega
  · simp only [nxor, Int.toNat_natCast]; omega

/- Chapter 1's promises, as facts on numbers. -/
theorem nat_high2 (a : Nat) (ha : a < 65536) : a &&& 65280 = a / 256 * 256 := by
  rw [← nat_high a ha]
  apply Nat.eq_of_testBit_eq
  intro i
  rw [Nat.testBit_and, Nat.testBit_and]
  by_cases hi : i < 16
  · have : i = 0 ∨ i = 1 ∨ i = 2 ∨ i = 3 ∨ i = 4 ∨ i = 5 ∨ i = 6 ∨ i = 7 ∨ i = 8 ∨ i = 9 ∨ i = 10 ∨ i = 11 ∨ i = 12 ∨ i = 13 ∨ i = 14 ∨ i = 15 := by omega
    congr 1
    rcases this with rfl|rfl|rfl|rfl|rfl|rfl|rfl|rfl|rfl|rfl|rfl|rfl|rfl|rfl|rfl|rfl <;> decide
  · have : a.testBit i = false := Nat.testBit_lt_two_pow (Nat.lt_of_lt_of_le ha (Nat.pow_le_pow_right (n := 2) (by decide) (by omega : 16 ≤ i)))
    simp [this]
theorem nand_high (a : Int) (h0 : 0 ≤ a) (h1 : a ≤ 65535) : nand a 65280 = a / 256 * 256 := by
  obtain ⟨x, rfl⟩ := Int.eq_ofNat_of_zero_le h0
  have := nat_high2 x (by omega)
  simp only [nand, Int.toNat_natCast, Int.reduceToNat, this]
  omega
theorem sg_back (n : Int) (h0 : 0 ≤ n) (h1 : n ≤ 65535) : signedOf n % 65536 = n ∧ -32768 ≤ signedOf n ∧ signedOf n ≤ 32767 := by
  have hW := isW_mk h0 h1
  simp only [signedOf, hW, sg, if_true]
  split <;> omega
theorem aluDo_in (op a b : Int) (o0 : 0 ≤ op) (o1 : op ≤ 5) (hA : isW a = true) (hB : isW b = true) : aluDo op a b = alu op a b := by
  simp [aluDo, o0, o1, hA, hB]
theorem low_bd (x y : Int) (hx0 : 0 ≤ x) (hx1 : x ≤ 65535) (hy0 : 0 ≤ y) (hy1 : y ≤ 65535) : 0 ≤ lowPut x y ∧ lowPut x y ≤ 65535 ∧ lowPut (lowPut x y) y = lowPut x y ∧ aluDo 3 (lowPut x y) 65280 = aluDo 3 x 65280 := by
  have hX := isW_mk hx0 hx1
  have hY := isW_mk hy0 hy1
  have e : lowPut x y = x / 256 * 256 + y % 256 := by simp [lowPut, hX, hY]
  have h0 : 0 ≤ lowPut x y := by rw [e]; omega
  have h1 : lowPut x y ≤ 65535 := by rw [e]; omega
  have hL := isW_mk h0 h1
  refine ⟨h0, h1, ?_, ?_⟩
  · have e2 : lowPut (lowPut x y) y = lowPut x y / 256 * 256 + y % 256 := by
      simp [lowPut, hX, hY]
      rw [e] at hL
      simp [hL]
    rw [e2, e]; omega
  · rw [aluDo_in 3 _ _ (by omega) (by omega) hL (by decide), aluDo_in 3 _ _ (by omega) (by omega) hX (by decide)]
    simp only [alu]
    simp [nand_high _ h0 h1, nand_high _ hx0 hx1]
    rw [e]; omega
theorem alu_bd (op a b : Int) (hA : isW a = true) (hB : isW b = true) : 0 ≤ alu op a b ∧ alu op a b ≤ 65535 := by
  have h1 := nand_b a b hA hB
  have h2 := nor_b a b hA hB
  have h3 := nxor_b a b hA hB
  unfold alu
  split
  · omega
  split
  · omega
  split
  · omega
  split
  · omega
  split <;> omega
theorem nand_comm (a b : Int) : nand a b = nand b a := by simp [nand, Nat.and_comm]
theorem nor_comm (a b : Int) : nor a b = nor b a := by simp [nor, Nat.or_comm]
theorem nxor_comm (a b : Int) : nxor a b = nxor b a := by simp [nxor, Nat.xor_comm]
theorem alu_comm (op a b : Int) (h : op ≠ 1) : alu op a b = alu op b a := by
  unfold alu
  rw [Int.add_comm b a, Int.mul_comm b a, nand_comm b a, nor_comm b a, nxor_comm b a]
  simp [h]
theorem alu_swap (op a b : Int) (o0 : 0 ≤ op) (o1 : op ≤ 5) (h : op ≠ 1) (hA : isW a = true) (hB : isW b = true) : aluDo op b a = aluDo op a b := by
  rw [aluDo_in _ _ _ o0 o1 hA hB, aluDo_in _ _ _ o0 o1 hB hA, alu_comm _ _ _ h]
theorem alu_back0 (a b : Int) (hA : isW a = true) (hB : isW b = true) : aluDo 1 (aluDo 0 a b) b = a := by
  obtain ⟨a0, a1⟩ := isW_iff.1 hA; obtain ⟨b0, b1⟩ := isW_iff.1 hB
  rw [aluDo_in 0 _ _ (by omega) (by omega) hA hB]
  have h := alu_bd 0 a b hA hB
  rw [aluDo_in 1 _ _ (by omega) (by omega) (isW_mk h.1 h.2) hB]
  simp [alu]; omega
theorem alu_back5 (a b : Int) (hA : isW a = true) (hB : isW b = true) : aluDo 5 (aluDo 5 a b) b = a := by
  obtain ⟨a0, a1⟩ := isW_iff.1 hA; obtain ⟨b0, b1⟩ := isW_iff.1 hB
  rw [aluDo_in 5 _ _ (by omega) (by omega) hA hB]
  have h := alu_bd 5 a b hA hB
  rw [aluDo_in 5 _ _ (by omega) (by omega) (isW_mk h.1 h.2) hB]
  simp [alu, nxor, Nat.xor_assoc]; omega
end Go.Proofs.YtgenojpdjplccaaDoor.Pl
