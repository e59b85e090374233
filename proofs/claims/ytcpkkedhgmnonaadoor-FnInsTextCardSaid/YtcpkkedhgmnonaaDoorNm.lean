/- Images in memory: what reads as names, and as an image. -/
import Derived.Test.YtcpkkedhgmnonaaDoorImg
import Derived.Test.YtcpkkedhgmnonaaDoorInts
set_option linter.unusedSimpArgs false
set_option linter.unusedVariables false
namespace Go.Proofs.YtcpkkedhgmnonaaDoor.Im
open Go.RowKit Pl Ft Mm In C2

/-- The slice v reads as these names. -/
def NRd (w : World) (v : Value) (l : List Nm) : Prop :=
  ∃ a cap, v = .slice a l.length cap ∧ (l = [] ∨ ∃ g o, a = some ⟨g, o, none⟩ ∧ g < w.heap.size ∧ ∀ j, j < l.length → w.cell? ⟨g, o + j * 2, none⟩ = some (.string (l.getD j .none).text) ∧ w.cell? ⟨g, o + j * 2 + 1, none⟩ = some (.int .i64 (l.getD j .none).at_))
theorem NRd.nil (w : World) (cap : Nat) : NRd w (.slice none 0 cap) [] := ⟨none, cap, rfl, .inl rfl⟩
theorem NRd.on {w w' : World} {v : Value} {l : List Nm} (h : NRd w v l) (hb : Below w.heap.size w w') : NRd w' v l := by
  obtain ⟨a, cap, e, h⟩ := h
  refine ⟨a, cap, e, ?_⟩
  rcases h with h | ⟨g, o, ea, hg, hc⟩
  · exact .inl h
  · refine .inr ⟨g, o, ea, Nat.lt_of_lt_of_le hg hb.size, fun j hj => ?_⟩
    rw [hb.cell (p := ⟨g, o + j * 2, none⟩) hg, hb.cell (p := ⟨g, o + j * 2 + 1, none⟩) hg]
    exact hc j hj
theorem NRd.alloc {w : World} {v : Value} {l : List Nm} (h : NRd w v l) (o : Obj) : NRd (w.alloc o) v l := h.on ((Below.refl _ _).alloc (Nat.le_refl _) o)
def nmCells (l : List Nm) : List Value := l.flatMap Nm.cells
theorem nmCells_len (l : List Nm) : (nmCells l).length = l.length * 2 := by
  induction l with
  | nil => rfl
  | cons n l ih =>
    simp only [nmCells, List.flatMap_cons, List.length_append, List.length_cons] at ih ⊢
    simp [Nm.cells] at ih ⊢
    omega
theorem nmCells_get (l : List Nm) (k : Nat) (h : k < l.length) : (nmCells l)[k * 2]? = some (.string (l.getD k .none).text) ∧ (nmCells l)[k * 2 + 1]? = some (.int .i64 (l.getD k .none).at_) := by
  have h0 := flat_get Nm.cells 2 (fun _ => rfl) .none l k 0 h (by decide)
  have h1 := flat_get Nm.cells 2 (fun _ => rfl) .none l k 1 h (by decide)
  exact ⟨h0, h1⟩
theorem NRd.of_own {w : World} {base : Nat} {e : TypeId} {v : Value} {l : List Nm} (h : w.ownsRow base e 2 v l.length (nmCells l)) : NRd w v l := by
  obtain ⟨a, cap, rfl⟩ := own_slice h
  refine ⟨a, cap, rfl, ?_⟩
  by_cases h0 : l = []
  · exact .inl h0
  · have hp : 0 < l.length := List.length_pos_iff.2 h0
    obtain ⟨g, cap', hv, _, hg⟩ := own_addr h hp
    have ha : a = some ⟨g, 0, none⟩ := by simp at hv; exact hv.1
    subst ha
    refine .inr ⟨g, 0, rfl, hg, fun j hj => ?_⟩
    obtain ⟨c0, c1⟩ := nmCells_get l j hj
    have q0 := h.cells (g := g) rfl (j * 2) _ c0
    have q1 := h.cells (g := g) rfl (j * 2 + 1) _ c1
    have e : ∀ n, (⟨g, 0, none⟩ : Addr).add n = ⟨g, n, none⟩ := by intro n; unfold Addr.add; split <;> simp_all
    rw [e] at q0 q1
    rw [Nat.zero_add]
    exact ⟨q0, q1⟩
theorem rd_slice {w : World} {v : Value} {xs : List Int} (h : Rd w v xs) : ∃ a cap, v = .slice a xs.length cap := by obtain ⟨a, cap, e, _⟩ := h; exact ⟨a, cap, e⟩
theorem nrd_slice {w : World} {v : Value} {l : List Nm} (h : NRd w v l) : ∃ a cap, v = .slice a l.length cap := by obtain ⟨a, cap, e, _⟩ := h; exact ⟨a, cap, e⟩
/-- No part is greater than what an argument may be. -/
structure Sm (m : Img) : Prop where
  c : m.code.length ≤ 1048576
  d : m.data.length ≤ 1048576
  n : m.names.length ≤ 1048576
  t : ∀ x ∈ m.names, x.text.size ≤ 1048576
theorem Sm.at_ {m : Img} (h : Sm m) (k : Nat) (hk : k < m.names.length) : (m.names.getD k .none).text.size ≤ 1048576 := h.t _ (by simp [hk])
/-- A slice is no longer than its room. -/
def CapOk (v : Value) : Prop := ∃ a n c, v = .slice a n c ∧ n ≤ c
theorem CapOk.of {a : Option Addr} {n c : Nat} (h : CapOk (.slice a n c)) : n ≤ c := by
  obtain ⟨a', n', c', e, h⟩ := h
  simp only [Value.slice.injEq] at e
  omega
theorem own_cap {w : World} {base : Nat} {e : TypeId} {size : Nat} {v : Value} {n : Nat} {xs : List Value} (h : w.ownsRow base e size v n xs) : CapOk v := by
  rcases h.2 with ⟨rfl, h0⟩ | ⟨g, cap, cur, rfl, _, _, hc, _⟩
  · exact ⟨_, _, _, rfl, Nat.le_refl _⟩
  · exact ⟨_, _, _, rfl, hc⟩
theorem NRd.take {w : World} {g o n c : Nat} {l : List Nm} (hg : g < w.heap.size) (h : ∀ j, j < l.length → w.cell? ⟨g, o + j * 2, none⟩ = some (.string (l.getD j .none).text) ∧ w.cell? ⟨g, o + j * 2 + 1, none⟩ = some (.int .i64 (l.getD j .none).at_)) (hn : n ≤ l.length) : NRd w (.slice (some ⟨g, o, none⟩) n c) (l.take n) := by
  have hl : (l.take n).length = n := by rw [List.length_take]; omega
  refine ⟨some ⟨g, o, none⟩, c, by rw [hl], .inr ⟨g, o, rfl, hg, fun j hj => ?_⟩⟩
  rw [hl] at hj
  have e : (l.take n).getD j .none = l.getD j .none := by
    rw [List.getD_eq_getElem?_getD, List.getD_eq_getElem?_getD, List.getElem?_take_of_lt hj]
  rw [e]
  exact h j (by omega)
/-- The parts of an image as memory has them. -/
structure ICells (w : World) (vc vd vn : Value) (m : Img) : Prop where
  c : Rd w vc m.code
  d : Rd w vd m.data
  n : NRd w vn m.names
  cap : CapOk vn
theorem ICells.on {w w' : World} {vc vd vn : Value} {m : Img} (h : ICells w vc vd vn m) (hb : Below w.heap.size w w') : ICells w' vc vd vn m := ⟨h.c.on hb, h.d.on hb, h.n.on hb, h.cap⟩
theorem ICells.alloc {w : World} {vc vd vn : Value} {m : Img} (h : ICells w vc vd vn m) (o : Obj) : ICells (w.alloc o) vc vd vn m := ⟨h.c.alloc o, h.d.alloc o, h.n.alloc o, h.cap⟩
def imgVal (vc vd vn : Value) (m : Img) : Value := .agg #[vc, .int .i64 m.entry, .int .i64 m.room, vd, vn]
end Go.Proofs.YtcpkkedhgmnonaaDoor.Im
