/- Terms in memory: what reads as terms, level by level; a row of terms of one's own, in blocks between two bounds. -/
import Derived.Test.YtgenojpdjplccaaDoorUp
import Derived.Test.YtgenojpdjplccaaDoorHarn
import Derived.Test.YtgenojpdjplccaaDoorMark
set_option linter.unusedSimpArgs false
set_option linter.unusedVariables false
namespace Go.Proofs.YtgenojpdjplccaaDoor.Um
open Go.RowKit Pl Ft Mm In C2 Im

/-- A term's value; kv is the slice of its parts. -/
def tmVal (t : Tm) (kv : Value) : Value := .agg #[.int .i64 t.kind, .int .i64 t.num, .string t.text, kv]
/-- The slice v reads as these terms; at most n levels. -/
def KRd (w : World) : Nat → Value → List Tm → Prop
  | 0, v, ks => ks = [] ∧ ∃ a cap, v = .slice a 0 cap
  | n + 1, v, ks => ∃ a cap, v = .slice a ks.length cap ∧ (ks = [] ∨ ∃ b o, a = some ⟨b, o, none⟩ ∧ b < w.heap.size ∧ ∀ j, j < ks.length → ∃ u,
      w.cell? ⟨b, o + j * 4, none⟩ = some (.int .i64 (ks.getD j tz).kind) ∧ w.cell? ⟨b, o + j * 4 + 1, none⟩ = some (.int .i64 (ks.getD j tz).num) ∧
      w.cell? ⟨b, o + j * 4 + 2, none⟩ = some (.string (ks.getD j tz).text) ∧ w.cell? ⟨b, o + j * 4 + 3, none⟩ = some u ∧ KRd w n u (ks.getD j tz).kids)
theorem KRd.nil (w : World) (n : Nat) (a : Option Addr) (cap : Nat) : KRd w n (.slice a 0 cap) [] := by
  cases n with
  | zero => exact ⟨rfl, a, cap, rfl⟩
  | succ n => exact ⟨a, cap, rfl, .inl rfl⟩
theorem KRd.slice {w : World} {n : Nat} {v : Value} {ks : List Tm} (h : KRd w n v ks) : ∃ a cap, v = .slice a ks.length cap := by
  cases n with
  | zero => obtain ⟨rfl, a, cap, e⟩ := h; exact ⟨a, cap, e⟩
  | succ n => obtain ⟨a, cap, e, _⟩ := h; exact ⟨a, cap, e⟩
/-- Where there is a part, there is a level, and a block. -/
theorem KRd.cells {w : World} {n : Nat} {v : Value} {ks : List Tm} (h : KRd w n v ks) (h0 : 0 < ks.length) : ∃ m b o cap, n = m + 1 ∧ v = .slice (some ⟨b, o, none⟩) ks.length cap ∧ b < w.heap.size ∧ ∀ j, j < ks.length → ∃ u,
      w.cell? ⟨b, o + j * 4, none⟩ = some (.int .i64 (ks.getD j tz).kind) ∧ w.cell? ⟨b, o + j * 4 + 1, none⟩ = some (.int .i64 (ks.getD j tz).num) ∧
      w.cell? ⟨b, o + j * 4 + 2, none⟩ = some (.string (ks.getD j tz).text) ∧ w.cell? ⟨b, o + j * 4 + 3, none⟩ = some u ∧ KRd w m u (ks.getD j tz).kids := by
  cases n with
  | zero => obtain ⟨rfl, _⟩ := h; simp at h0
  | succ m =>
    obtain ⟨a, cap, rfl, h⟩ := h
    rcases h with rfl | ⟨b, o, rfl, hb, hc⟩
    · simp at h0
    · exact ⟨m, b, o, cap, rfl, rfl, hb, hc⟩
theorem KRd.on {w w' : World} (hb : Below w.heap.size w w') : ∀ {n : Nat} {v : Value} {ks : List Tm}, KRd w n v ks → KRd w' n v ks
  | 0, _, _, h => h
  | n + 1, v, ks, h => by
    obtain ⟨a, cap, e, h⟩ := h
    refine ⟨a, cap, e, ?_⟩
    rcases h with h | ⟨b, o, ea, hg, hc⟩
    · exact .inl h
    · refine .inr ⟨b, o, ea, Nat.lt_of_lt_of_le hg hb.size, fun j hj => ?_⟩
      obtain ⟨u, h0, h1, h2, h3, hk⟩ := hc j hj
      exact ⟨u, (hb.cell (p := ⟨b, o + j * 4, none⟩) hg).trans h0, (hb.cell (p := ⟨b, o + j * 4 + 1, none⟩) hg).trans h1, (hb.cell (p := ⟨b, o + j * 4 + 2, none⟩) hg).trans h2, (hb.cell (p := ⟨b, o + j * 4 + 3, none⟩) hg).trans h3, KRd.on hb hk⟩
theorem KRd.mono {w : World} : ∀ {n m : Nat} {v : Value} {ks : List Tm}, KRd w n v ks → n ≤ m → KRd w m v ks
  | 0, m, _, _, h, _ => by obtain ⟨rfl, a, cap, rfl⟩ := h; exact KRd.nil w m a cap
  | n + 1, 0, _, _, _, hm => by omega
  | n + 1, m + 1, v, ks, h, hm => by
    obtain ⟨a, cap, e, h⟩ := h
    refine ⟨a, cap, e, ?_⟩
    rcases h with h | ⟨b, o, ea, hg, hc⟩
    · exact .inl h
    · refine .inr ⟨b, o, ea, hg, fun j hj => ?_⟩
      obtain ⟨u, h0, h1, h2, h3, hk⟩ := hc j hj
      exact ⟨u, h0, h1, h2, h3, KRd.mono hk (by omega)⟩
/-- What the parts of an argument are at most. -/
def Lim : Nat → List Tm → Prop
  | 0, ks => ks = []
  | n + 1, ks => ks.length ≤ 9223372036854775807 ∧ ∀ j, j < ks.length → (ks.getD j tz).text.size ≤ 9223372036854775807 ∧ Lim n (ks.getD j tz).kids
theorem Lim.len {n : Nat} {ks : List Tm} (h : Lim n ks) : ks.length ≤ 9223372036854775807 := by
  cases n with
  | zero => obtain rfl := h; simp
  | succ n => exact h.1
/-- The cells of a row of terms. -/
def tCell (t : Tm) (u : Value) : List Value := [.int .i64 t.kind, .int .i64 t.num, .string t.text, u]
def tCells : List Tm → List Value → List Value
  | [], _ => []
  | t :: ks, us => tCell t (us.headD (.slice none 0 0)) ++ tCells ks us.tail
theorem tCells_len : ∀ (ks : List Tm) (us : List Value), (tCells ks us).length = ks.length * 4
  | [], _ => rfl
  | t :: ks, us => by simp only [tCells, List.length_append, tCells_len ks us.tail, tCell, List.length_cons, List.length_nil]; omega
def vz : Value := .slice none 0 0
theorem tCells_get : ∀ (ks : List Tm) (us : List Value) (j : Nat), j < ks.length → us.length = ks.length →
    (tCells ks us)[j * 4]? = some (.int .i64 (ks.getD j tz).kind) ∧ (tCells ks us)[j * 4 + 1]? = some (.int .i64 (ks.getD j tz).num) ∧ (tCells ks us)[j * 4 + 2]? = some (.string (ks.getD j tz).text) ∧ (tCells ks us)[j * 4 + 3]? = some (us.getD j vz)
  | [], _, _, hj, _ => by simp at hj
  | t :: ks, [], _, _, hu => by simp at hu
  | t :: ks, u :: us, 0, _, _ => by simp [tCells, tCell]
  | t :: ks, u :: us, j + 1, hj, hu => by
    have ih := tCells_get ks us j (by simpa using hj) (by simpa using hu)
    have e : ∀ r, (tCells (t :: ks) (u :: us))[(j + 1) * 4 + r]? = (tCells ks us)[j * 4 + r]? := by
      intro r
      have e4 : (j + 1) * 4 + r = (tCell t u).length + (j * 4 + r) := by simp [tCell]; omega
      show (tCell t u ++ tCells ks us)[(j + 1) * 4 + r]? = _
      rw [e4, List.getElem?_append_right (by omega), Nat.add_sub_cancel_left]
    have e0 := e 0
    simp only [Nat.add_zero] at e0
    rw [e0, e 1, e 2, e 3]
    simpa using ih
theorem tCells_snoc : ∀ (ks : List Tm) (us : List Value) (t : Tm) (u : Value), us.length = ks.length → tCells (ks ++ [t]) (us ++ [u]) = tCells ks us ++ tCell t u
  | [], us, t, u, h => by
    obtain rfl : us = [] := by simpa using h
    simp [tCells]
  | x :: ks, [], t, u, h => by simp at h
  | x :: ks, v :: us, t, u, h => by
    have := tCells_snoc ks us t u (by simpa using h)
    simp only [List.cons_append, tCells, List.headD_cons, List.tail_cons, this, List.append_assoc]
/-- A row of terms of one's own: its block and all blocks of its parts lie from lo on and below hi; those of each part lie between bounds of its own, and the row's block in none of them. -/
def KOwn (w : World) : Nat → Nat → Nat → Value → List Tm → Prop
  | 0, lo, hi, v, ks => ks = [] ∧ lo ≤ hi ∧ w.ownsRow lo 25 4 v 0 [] ∧ ∀ r, v.ownBlock = some r → r < hi
  | n + 1, lo, hi, v, ks => ∃ (us : List Value) (f g : Nat → Nat), us.length = ks.length ∧ lo ≤ hi ∧ w.ownsRow lo 25 4 v ks.length (tCells ks us) ∧
      (∀ r, v.ownBlock = some r → r < hi ∧ ∀ j, j < ks.length → r < f j ∨ g j ≤ r) ∧
      ∀ j, j < ks.length → lo ≤ f j ∧ g j ≤ hi ∧ (∀ i, i < j → g i ≤ f j ∨ g j ≤ f i) ∧ KOwn w n (f j) (g j) (us.getD j vz) (ks.getD j tz).kids
theorem KOwn.row {w : World} {n lo hi : Nat} {v : Value} {ks : List Tm} (h : KOwn w n lo hi v ks) : ∃ us, us.length = ks.length ∧ w.ownsRow lo 25 4 v ks.length (tCells ks us) := by
  cases n with
  | zero => obtain ⟨rfl, _, h, _⟩ := h; exact ⟨[], rfl, h⟩
  | succ n => obtain ⟨us, f, g, h1, _, h2, _⟩ := h; exact ⟨us, h1, h2⟩
theorem KOwn.le {w : World} {n lo hi : Nat} {v : Value} {ks : List Tm} (h : KOwn w n lo hi v ks) : lo ≤ hi := by
  cases n with
  | zero => exact h.2.1
  | succ n => obtain ⟨us, f, g, _, h, _⟩ := h; exact h
theorem KOwn.slice {w : World} {n lo hi : Nat} {v : Value} {ks : List Tm} (h : KOwn w n lo hi v ks) : ∃ a cap, v = .slice a ks.length cap := by
  obtain ⟨us, _, h⟩ := h.row
  exact own_slice h
theorem KOwn.rd {w : World} : ∀ {n lo hi : Nat} {v : Value} {ks : List Tm}, KOwn w n lo hi v ks → KRd w n v ks
  | 0, lo, hi, v, ks, h => by
    obtain ⟨rfl, _, h, _⟩ := h
    obtain ⟨a, cap, rfl⟩ := own_slice h
    exact ⟨rfl, a, cap, rfl⟩
  | n + 1, lo, hi, v, ks, h => by
    obtain ⟨us, f, g, hl, _, hrow, _, hk⟩ := h
    obtain ⟨a, cap, rfl⟩ := own_slice hrow
    refine ⟨a, cap, rfl, ?_⟩
    by_cases h0 : ks = []
    · exact .inl h0
    · have hp : 0 < ks.length := List.length_pos_iff.2 h0
      obtain ⟨b, cap', hv, _, hb⟩ := own_addr hrow hp
      have ha : a = some ⟨b, 0, none⟩ := by simp at hv; exact hv.1
      subst ha
      refine .inr ⟨b, 0, rfl, hb, fun j hj => ?_⟩
      obtain ⟨c0, c1, c2, c3⟩ := tCells_get ks us j hj hl
      have hc : ∀ i u, (tCells ks us)[i]? = some u → w.cell? ⟨b, i, none⟩ = some u := by
        intro i u hu
        have := hrow.cells (g := b) rfl i u hu
        rwa [add_none, Nat.zero_add] at this
      rw [Nat.zero_add]
      exact ⟨_, hc _ _ c0, hc _ _ c1, hc _ _ c2, hc _ _ c3, KOwn.rd (hk j hj).2.2.2⟩
theorem own_same {w w' : World} {base : Nat} {e : TypeId} {size : Nat} {v : Value} {n : Nat} {xs : List Value} (h : w.ownsRow base e size v n xs) (hv : ∀ g, v.ownBlock = some g → w'.heap[g]? = w.heap[g]?) : w'.ownsRow base e size v n xs := by
  refine ⟨h.1, ?_⟩
  rcases h.2 with h0 | ⟨g, cap, cur, rfl, hg, hr, hrest⟩
  · exact .inl h0
  · exact .inr ⟨g, cap, cur, rfl, hg, (hv g rfl).trans hr, hrest⟩
/-- What happens elsewhere leaves it. -/
theorem KOwn.keep {w w' : World} : ∀ {n lo hi : Nat} {v : Value} {ks : List Tm}, KOwn w n lo hi v ks → (∀ b, lo ≤ b → b < hi → b < w.heap.size → w'.heap[b]? = w.heap[b]?) → KOwn w' n lo hi v ks
  | 0, lo, hi, v, ks, h, hb => by
    obtain ⟨rfl, hle, h, hr⟩ := h
    exact ⟨rfl, hle, own_same h (fun g hg => hb g (h.lt g hg).1 (hr g hg) (h.lt g hg).2), hr⟩
  | n + 1, lo, hi, v, ks, h, hb => by
    obtain ⟨us, f, g, hl, hle, hrow, hr, hk⟩ := h
    refine ⟨us, f, g, hl, hle, own_same hrow (fun b hb' => hb b (hrow.lt b hb').1 (hr b hb').1 (hrow.lt b hb').2), hr, fun j hj => ?_⟩
    obtain ⟨h1, h2, h3, h4⟩ := hk j hj
    exact ⟨h1, h2, h3, KOwn.keep h4 (fun b hb1 hb2 hb3 => hb b (by omega) (by omega) hb3)⟩
theorem KOwn.on {w w' : World} {n lo hi : Nat} {v : Value} {ks : List Tm} (h : KOwn w n lo hi v ks) (hb : Below w.heap.size w w') : KOwn w' n lo hi v ks :=
  h.keep (fun b _ _ hbs => hb.block b hbs)
theorem KOwn.only {w w' : World} {p : Nat → Prop} {n lo hi : Nat} {v : Value} {ks : List Tm} (h : KOwn w n lo hi v ks) (hb : Only p w w') (hp : ∀ b, lo ≤ b → b < hi → ¬ p b) : KOwn w' n lo hi v ks :=
  h.keep (fun b h1 h2 h3 => hb.block b h3 (hp b h1 h2))
theorem KOwn.widen {w : World} : ∀ {n lo hi lo' hi' : Nat} {v : Value} {ks : List Tm}, KOwn w n lo hi v ks → lo' ≤ lo → hi ≤ hi' → KOwn w n lo' hi' v ks
  | 0, lo, hi, lo', hi', v, ks, h, h1, h2 => by
    obtain ⟨rfl, hle, h, hr⟩ := h
    exact ⟨rfl, by omega, own_mono h h1, fun r h => by have := hr r h; omega⟩
  | n + 1, lo, hi, lo', hi', v, ks, h, h1, h2 => by
    obtain ⟨us, f, g, hl, hle, hrow, hr, hk⟩ := h
    refine ⟨us, f, g, hl, by omega, own_mono hrow h1, fun r h => ⟨by have := (hr r h).1; omega, (hr r h).2⟩, fun j hj => ?_⟩
    obtain ⟨k1, k2, k3, k4⟩ := hk j hj
    exact ⟨by omega, by omega, k3, k4⟩
end Go.Proofs.YtgenojpdjplccaaDoor.Um
