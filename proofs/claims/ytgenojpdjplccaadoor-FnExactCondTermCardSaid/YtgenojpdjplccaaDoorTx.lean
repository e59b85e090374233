/- The text of an instruction: its parts, by the program; numbers by the model. -/
import Derived.Test.YtgenojpdjplccaaDoorNo2
set_option linter.unusedSimpArgs false
set_option linter.unusedVariables false
namespace Go.Proofs.YtgenojpdjplccaaDoor.Tx
open Go.RowKit Pl Ft Mm In C2 Im

def txt (x : Int) : ByteArray := ⟨(Lib.itoa x).toArray⟩
theorem itoa_len {x : Int} (h0 : -1000000 ≤ x) (h1 : x ≤ 1000000) : (txt x).size ≤ 1000002 := by
  have e : (txt x).size = (Lib.itoa x).length := by simp [txt, ByteArray.size]
  rw [e]
  unfold Lib.itoa
  split
  · have := digits_len x.natAbs
    rw [List.length_cons]; omega
  · have := digits_len x.toNat
    omega
set_option maxRecDepth 100000 in
theorem decimalAll_c (x : Int) (w : World) (h0 : -1000000 ≤ x) (h1 : x ≤ 1000000) :
    Calls Tryd.prog 111 #[.int .i64 x] w fun e w' => e = .returned (.string (txt x)) ∧ w' = w := by
  by_cases h : 0 ≤ x
  · obtain ⟨n, rfl⟩ := Int.eq_ofNat_of_zero_le h
    refine (decimal_c n w (by omega)).mono ?_
    rintro e w' ⟨rfl, rfl⟩
    refine ⟨?_, rfl⟩
    unfold txt Lib.itoa
    rw [if_neg (by omega)]
    rfl
  · obtain ⟨n, hn⟩ : ∃ n : Nat, x = -(n : Int) := ⟨x.natAbs, by omega⟩
    have hn0 : 1 ≤ n := by omega
    have e0 : txt x = ⟨#[45]⟩ ++ ⟨(Lib.decDigits n).toArray⟩ := by
      unfold txt Lib.itoa
      rw [if_pos (by omega), show x.natAbs = n by omega]
      exact (bytes_app [45] _).symm
    have hd := digits_len n
    have e1 : (⟨(Lib.decDigits n).toArray⟩ : ByteArray).size = (Lib.decDigits n).length := by simp [ByteArray.size]
    obtain ⟨s, hs⟩ : ∃ s, (⟨(Lib.decDigits n).toArray⟩ : ByteArray) = s := ⟨_, rfl⟩
    rw [hs] at e0 e1
    have HS := hid hs
    have HE := hid e0
    rw [← e1] at hd
    clear hs e0 e1
    subst hn
    go_enter Tryd.func111, Tryd.ntmps111
    go_wp2_with fail
    refine (decimal_c n w (by omega)).mono ?_
    rw [HS.out]
    rintro e w1 ⟨rfl, rfl⟩
    go_wp2_with fail
    go_ret
    exact ⟨by rw [HE.out]; rfl, rfl⟩
theorem bytes_of {p : ByteArray} {l : List UInt8} (h : p.toList = l) : p = ⟨l.toArray⟩ := by
  rw [ByteArray.toList_eq] at h
  apply ByteArray.ext
  rw [← h]
/-- The words of the conditions. -/
def condWords : List ByteArray := [⟨#[101, 113, 117, 97, 108]⟩, ⟨#[111, 116, 104, 101, 114]⟩, ⟨#[108, 101, 115, 115]⟩, ⟨#[109, 111, 115, 116]⟩, ⟨#[108, 111, 119]⟩, ⟨#[104, 105, 103, 104]⟩]
def Conds (w : World) : Prop := 0 < w.heap.size ∧ ∀ k, k < 6 → w.cell? ⟨0, k, none⟩ = some (.string (condWords.getD k ⟨#[]⟩))
theorem Conds.on {w w' : World} (h : Conds w) (hb : Below w.heap.size w w') : Conds w' := ⟨Nat.lt_of_lt_of_le h.1 hb.size, fun k hk => (hb.cell (p := ⟨0, k, none⟩) h.1).trans (h.2 k hk)⟩
/-- What stands for a part. -/
def partOf (p : ByteArray) (i : IIns) : ByteArray :=
  if p.toList = [114, 65] then ⟨#[114]⟩ ++ txt i.a
  else if p.toList = [114, 66] then ⟨#[114]⟩ ++ txt i.b
  else if p.toList = [66] then txt i.b
  else if p.toList = [67] then condWords.getD i.b.toNat ⟨#[]⟩
  else if p.toList = [78] then txt i.n
  else p
end Go.Proofs.YtgenojpdjplccaaDoor.Tx
