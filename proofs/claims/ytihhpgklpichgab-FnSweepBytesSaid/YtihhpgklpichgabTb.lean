/- Tables of both sides; where an instruction leads: bounds. -/
import Derived.Test.YtihhpgklpichgabSw3
import Derived.Test.YtihhpgklpichgabSw
import Derived.Test.YtihhpgklpichgabApp
import Derived.Test.YtihhpgklpichgabIm1
import Derived.Test.YtihhpgklpichgabIm4
set_option linter.unusedSimpArgs false
set_option linter.unusedVariables false
namespace Go.Proofs.Ytihhpgklpichgab.Wk
open Go.RowKit Pl Ft Mm In C2 Im Sw

def tabL (code : List Int) (n k : Nat) : List Int := (List.range k).map fun j => code.getD (n + 2 * j) 0 + 256 * code.getD (n + 2 * j + 1) 0
theorem tabL_succ (code : List Int) (n k : Nat) : tabL code n (k + 1) = tabL code n k ++ [code.getD (n + 2 * k) 0 + 256 * code.getD (n + 2 * k + 1) 0] := by simp [tabL, List.range_succ]
theorem tabL_len (code : List Int) (n k : Nat) : (tabL code n k).length = k := by simp [tabL]
theorem tabP_eq (code : List Int) (i : IIns) : tabP code i = if i.n + 2 * i.b ≤ code.length then some (tabL code i.n.toNat i.b.toNat) else none := rfl
def TabPost (o : Option (List Int)) (w : World) (e : Ending) (w' : World) : Prop := ∃ v', e = .returned (.tuple #[v', .bool o.isSome]) ∧ w'.ownsRow w.heap.size 3 1 v' (o.getD []).length (ints (o.getD [])) ∧ Below w.heap.size w w'
structure TbRel (code : List Int) (n : Nat) (w : World) (g : Nat) (i : IIns) (v : Value) (xs : List Int) (k : Nat) (wr : World) : Prop where
  own : wr.ownsRow w.heap.size 3 1 v xs.length (ints xs)
  eq : xs = tabL code n k
  box : Row wr g 24 (i4 i)
  bel : Below w.heap.size w wr
theorem TbRel.more {code : List Int} {n : Nat} {w : World} {g : Nat} {i : IIns} {v v' : Value} {xs : List Int} {k : Nat} {wr w2 : World} (h : TbRel code n w g i v xs k wr) {o : Obj} {y : Int} (hy : y = code.getD (n + 2 * k) 0 + 256 * code.getD (n + 2 * k + 1) 0) (hg : Grows w.heap.size (xs ++ [y]) v v' (wr.alloc o) w2) : TbRel code n w g i v' (xs ++ [y]) (k + 1) w2 := by
  have hz := h.bel.size
  have hal := h.bel.alloc hz o
  refine ⟨hg.own, ?_, hg.row (h.box.alloc o) (no_own (h.box.alloc o) (h.own.alloc o) (by decide)), hal.trans hg.bel⟩
  rw [tabL_succ, h.eq, hy]
theorem info_int2 : (Try.prog.info? 3).map (fun i => (i.zero, i.size, i.bytes)) = some (some (.int .i64 0), 1, 8) := by kernel_rfl
theorem take_two_len (code : List Int) (p : Nat) : ((code.drop p).take 2).length ≤ 2 := by rw [List.length_take]; omega
theorem two_bd {code : List Int} (h : code.all isByte = true) (p : Nat) (hp : p + 1 < code.length) : 0 ≤ code.getD p 0 ∧ code.getD p 0 ≤ 255 ∧ 0 ≤ code.getD (p + 1) 0 ∧ code.getD (p + 1) 0 ≤ 255 := by
  have h1 := byte_at h p (by omega)
  have h2 := byte_at h (p + 1) hp
  omega
end Go.Proofs.Ytihhpgklpichgab.Wk
namespace Go.Proofs.Ytihhpgklpichgab.Wk
open Go.RowKit Pl Ft Mm In C2 Im Sw

def tabAt (code : List Int) (n k : Nat) : Int := if n + 2 * k + 1 < code.length then code.getD (n + 2 * k) 0 + 256 * code.getD (n + 2 * k + 1) 0 else 0
end Go.Proofs.Ytihhpgklpichgab.Wk
namespace Go.Proofs.Ytihhpgklpichgab.Wk
open Go.RowKit Pl Ft Mm In C2 Im Sw

theorem table_bd {op a b n : Int} (h : validIns ⟨op, a, b, n⟩ = true) (h30 : op = 30) : 0 ≤ n ∧ n ≤ 1999 ∧ 1 ≤ b ∧ b ≤ 8 := by
  subst h30
  have hv : validAt (stab.getD 30 .none) ⟨30, a, b, n⟩ = true := by
    unfold validIns at h
    rw [Bool.and_eq_true] at h
    exact h.2
  have e1 : (stab.getD 30 .none).b = 8 := rfl
  have e2 : (stab.getD 30 .none).low = 0 := rfl
  have e3 : (stab.getD 30 .none).high = 1999 := rfl
  unfold validAt at hv
  rw [e1, e2, e3] at hv
  simp [inRange] at hv
  omega
/-- What TableOf answers. -/
def tableOf (m : Img) (x : Int) : Option (List Int) :=
  if imageOk m && (decide (0 ≤ x) && decide (x < m.code.length)) then
    match insIn m.code x.toNat with
    | some i => if i.op = 30 then tabP m.code i else none
    | none => none
  else none
end Go.Proofs.Ytihhpgklpichgab.Wk
namespace Go.Proofs.Ytihhpgklpichgab.Wk
open Go.RowKit Pl Ft Mm In C2 Im Sw

theorem lead_bd {i : IIns} (h : validIns i = true) (ho : i.op = 27 ∨ i.op = 28 ∨ i.op = 29) : 0 ≤ i.n ∧ i.n ≤ 1999 := by
  obtain ⟨op, a, b, n⟩ := i
  simp only at ho ⊢
  have key : ∀ k : Nat, (stab.getD k .none).low = 0 → (stab.getD k .none).high = 1999 → op = k → 0 ≤ n ∧ n ≤ 1999 := by
    intro k e2 e3 hk
    subst hk
    have hv : validAt (stab.getD k .none) ⟨(k : Int), a, b, n⟩ = true := by
      unfold validIns at h
      rw [Bool.and_eq_true] at h
      simpa using h.2
    unfold validAt at hv
    rw [e2, e3] at hv
    simp [inRange] at hv
    omega
  rcases ho with h1 | h1 | h1
  · exact key 27 rfl rfl h1
  · exact key 28 rfl rfl h1
  · exact key 29 rfl rfl h1
theorem badTab_no {code : List Int} {i : IIns} (h : i.op ≠ 30) : badTab code i = false := by unfold badTab; simp [h]
theorem tab_len {code : List Int} {i : IIns} (hb : i.b ≤ 8) : ((tabP code i).getD []).length ≤ 8 := by
  unfold tabP
  split
  · simp; omega
  · simp
theorem valid_b {i : IIns} (h : validIns i = true) (h30 : i.op = 30) : i.b ≤ 8 := (table_bd (op := i.op) (a := i.a) (b := i.b) (n := i.n) h h30).2.2.2
theorem succs_bd {code : List Int} (h : code.all isByte = true) {i : IIns} (hv : validIns i = true) {next : Int} (hx : 0 ≤ next ∧ next ≤ 100000) : ∀ q ∈ succs code i next, 0 ≤ q ∧ q ≤ 100000 := by
  intro q hq
  have hn := fun ho => lead_bd hv ho
  unfold succs at hq
  split at hq
  · cases hq
  split at hq
  · simp at hq; subst hq; have := hn (by omega); omega
  split at hq
  · simp at hq; rcases hq with rfl | rfl; (have := hn (by omega); omega); exact hx
  split at hq
  · simp at hq; rcases hq with rfl | rfl; exact hx; (have := hn (by omega); omega)
  split at hq
  · rw [List.mem_append] at hq
    rcases hq with hq | hq
    · unfold tabP at hq
      split at hq
      · simp only [Option.getD_some, List.mem_map, List.mem_range] at hq
        obtain ⟨k, hk, rfl⟩ := hq
        rename_i hfit
        have hb8 := table_bd (op := i.op) (a := i.a) (b := i.b) (n := i.n) hv (by assumption)
        have h1 := two_bd h (i.n.toNat + 2 * k) (by omega)
        omega
      · cases hq
    · simp at hq; subst hq; exact hx
  · simp at hq; subst hq; exact hx
end Go.Proofs.Ytihhpgklpichgab.Wk
