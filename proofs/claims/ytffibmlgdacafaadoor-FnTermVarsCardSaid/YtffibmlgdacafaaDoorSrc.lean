/- The source of drawn numbers (spec.source): what each of its methods returns, and that it writes its own block alone · The source of drawn numbers: from, word; and the draws of chapter 1. -/
import Derived.Test.YtffibmlgdacafaaDoorRows
import Derived.Test.YtffibmlgdacafaaDoorBase
import Derived.WalkKit
import Derived.Outline
import Derived.Handy
import Derived.BigQuiet
import Derived.Deep.QuietTactic
import Derived.WalkLawsBesides
import Derived.OpenShut
import Derived.Test.YtffibmlgdacafaaDoorC1
set_option linter.unusedSimpArgs false
set_option linter.unusedVariables false
namespace Go.Proofs.YtffibmlgdacafaaDoor.Src
open Go.RowKit Pl

/-- The bytes that came in: none, or a row of cells with numbers in 0..255. -/
structure Bytes (w : World) (a : Option Addr) (len : Nat) (zs : List Int) : Prop where
  small : len ≤ 1048576
  cells : len = 0 ∨ ∃ b o, a = some ⟨b, o, none⟩ ∧ b < w.heap.size ∧ ∀ i, i < len → w.cell? ⟨b, o + i, none⟩ = some (.int .u8 (zs.getD i 0))
  range : ∀ i : Nat, 0 ≤ zs.getD i 0 ∧ zs.getD i 0 ≤ 255

/-- From what the frame tells of a slice of bytes that came in. -/
theorem bytes_of {w : World} {a : Option Addr} {len cap : Nat} {zs : List Int} (hl : len ≤ 1048576)
    (h : (a = none ∧ len = 0 ∧ cap = 0 ∧ zs = []) ∨ ∃ x, a = some x ∧ len ≤ cap ∧ cap ≤ maxLen ∧ zs.length = cap ∧ (∀ i, i < zs.length → w.cell? (x.add i) = some (.int .u8 (zs.getD i 0))) ∧ ∀ n ∈ zs, (Lit.int .u8 n).wf = true) : Bytes w a len zs := by
  rcases h with ⟨_, h0, _, rfl⟩ | ⟨x, rfl, hlc, _, hz, hcell, hwf⟩
  · exact ⟨hl, Or.inl h0, fun i => by simp⟩
  · have hr : ∀ i : Nat, 0 ≤ zs.getD i 0 ∧ zs.getD i 0 ≤ 255 := fun i => by
      have := range_u8 hwf i
      simpa using this
    by_cases h0 : len = 0
    · exact ⟨hl, Or.inl h0, hr⟩
    · obtain ⟨b, off, rfl, hc⟩ := ints_at hcell (by omega)
      refine ⟨hl, Or.inr ⟨b, off, rfl, ?_, fun i hi => hc i (by omega)⟩, hr⟩
      exact World.block_lt_of_cell? _ _ (hc 0 (by omega))

/-- Block sb of the world holds a source that stands at place k of the bytes. -/
structure Src (w : World) (sb : Nat) (a : Option Addr) (len cap : Nat) (zs : List Int) (k : Int) : Prop where
  code : w.cell? ⟨sb, 0, none⟩ = some (.slice a len cap)
  at_ : w.cell? ⟨sb, 1, none⟩ = some (.int .i64 k)
  free : w.frozen? ⟨sb, 1, none⟩ = false
  lo : 0 ≤ k
  bytes : Bytes w a len zs
  apart : ∀ b o, a = some ⟨b, o, none⟩ → 0 < len → b < sb
  here : sb < w.heap.size

/-- The world w' is w but for new blocks and what stands in block sb. -/
structure Moved (sb : Nat) (w w' : World) : Prop where
  os : w'.os = w.os
  tape : w'.tape = w.tape
  output : w'.output = w.output
  size : w.heap.size ≤ w'.heap.size
  block : ∀ k, k < w.heap.size → k ≠ sb → w'.heap[k]? = w.heap[k]?

theorem Moved.refl (sb : Nat) (w : World) : Moved sb w w := ⟨rfl, rfl, rfl, Nat.le_refl _, fun _ _ _ => rfl⟩
theorem Moved.trans {sb : Nat} {a b c : World} (h : Moved sb a b) (k : Moved sb b c) : Moved sb a c :=
  ⟨k.os.trans h.os, k.tape.trans h.tape, k.output.trans h.output, Nat.le_trans h.size k.size, fun i hi hn => (k.block i (Nat.lt_of_lt_of_le hi h.size) hn).trans (h.block i hi hn)⟩
theorem Moved.drew {sb : Nat} {a w : World} (h : Moved sb a w) : Moved sb a w.drew := ⟨h.os, h.tape, h.output, h.size, h.block⟩
theorem Moved.drewN {sb : Nat} {a w : World} (h : Moved sb a w) (n : Nat) : Moved sb a (w.drewN n) := ⟨h.os, h.tape, h.output, h.size, h.block⟩
theorem Moved.setCell {sb : Nat} {a w : World} (h : Moved sb a w) (o : Nat) (u : Value) : Moved sb a (w.setCell ⟨sb, o, none⟩ u) :=
  h.trans ⟨rfl, rfl, rfl, by simp [World.setCell], fun k _ hn => Below.heap_setCell _ _ _ _ hn⟩
theorem Moved.alloc {sb : Nat} {a w : World} (h : Moved sb a w) (o : Obj) : Moved sb a (w.alloc o) :=
  h.trans ⟨rfl, rfl, rfl, by simp, fun k hk _ => Below.heap_alloc _ _ _ hk⟩
theorem Moved.cell {sb : Nat} {w w' : World} (h : Moved sb w w') {b o : Nat} (hb : b < w.heap.size) (hn : b ≠ sb) : w'.cell? ⟨b, o, none⟩ = w.cell? ⟨b, o, none⟩ := World.cell?_of_block (w := w) (h.block b hb hn)
theorem Moved.frozen {sb : Nat} {w w' : World} (h : Moved sb w w') {b o : Nat} (hb : b < w.heap.size) (hn : b ≠ sb) : w'.frozen? ⟨b, o, none⟩ = w.frozen? ⟨b, o, none⟩ := World.frozen?_of_block (w := w) (h.block b hb hn)
theorem Moved.below {B sb : Nat} {W w w' : World} (h : Moved sb w w') (hB : Below B W w) (hs : B ≤ sb) (hz : B ≤ w.heap.size) : Below B W w' :=
  hB.trans ⟨h.os, h.tape, h.output, h.size, fun k hk => h.block k (by omega) (by omega)⟩
theorem Bytes.moved {sb : Nat} {w w' : World} {a : Option Addr} {len : Nat} {zs : List Int} (h : Bytes w a len zs) (m : Moved sb w w') (hap : ∀ b o, a = some ⟨b, o, none⟩ → 0 < len → b < sb) : Bytes w' a len zs := by
  refine ⟨h.small, ?_, h.range⟩
  rcases h.cells with h0 | ⟨b, o, e, hlt, hc⟩
  · exact Or.inl h0
  · refine Or.inr ⟨b, o, e, Nat.lt_of_lt_of_le hlt m.size, fun i hi => ?_⟩
    rw [m.cell hlt (by have := hap b o e (by omega); omega)]; exact hc i hi

/-- A step of the source: a store of the next place, and draws. -/
theorem Src.step2 {sb : Nat} {a : Option Addr} {len cap : Nat} {zs : List Int} {k : Int} {w : World} (h : Src w sb a len cap zs k) (n m : Nat) :
    Src (((w.setCell ⟨sb, 1, none⟩ (.int .i64 (k + 1))).drewN n).drewN m) sb a len cap zs (k + 1) ∧ Moved sb w (((w.setCell ⟨sb, 1, none⟩ (.int .i64 (k + 1))).drewN n).drewN m) := by
  have m : Moved sb w (((w.setCell ⟨sb, 1, none⟩ (.int .i64 (k + 1))).drewN n).drewN m) := (((Moved.refl sb w).setCell 1 _).drewN n).drewN m
  refine ⟨⟨?_, ?_, ?_, by have := h.lo; omega, h.bytes.moved m h.apart, h.apart, Nat.lt_of_lt_of_le h.here m.size⟩, m⟩
  · have := h.code; simp [go_sem, this]
  · have := h.at_; simp [go_sem, this]
  · have := h.free; simp [go_sem, this]

/-- A method of the source has returned a number that is P, having taken d bytes at most. -/
def Got (sb : Nat) (a : Option Addr) (len cap : Nat) (zs : List Int) (k d : Int) (P : Int → Prop) (w : World) (e : Ending) (w' : World) : Prop :=
  ∃ v k' : Int, e = .returned (.int .i64 v) ∧ P v ∧ k ≤ k' ∧ k' ≤ k + d ∧ Src w' sb a len cap zs k' ∧ Moved sb w w'

theorem next_c (sb : Nat) (a : Option Addr) (len cap : Nat) (zs : List Int) (k : Int) (w : World) (h : Src w sb a len cap zs k) (hk : k ≤ 999999999) :
    Calls Tryd.prog 92 #[.pointer (some ⟨sb, 0, none⟩)] w (Got sb a len cap zs k 1 (fun v => 0 ≤ v ∧ v ≤ 255) w) := by
  have H := hid h
  obtain ⟨hc, ha, hf, hlo, hb, hap, hhi⟩ := h
  have hs := hb.small
  by_cases hlt : (len : Int) < k + 1
  · have HB := hid hb
    clear hb hap
    go_enter Tryd.func92, Tryd.ntmps92
    go_wp2
    go_quiet (fail)
    go_wp2
    go_quiet (fail)
    go_wp2
    go_ret
    exact ⟨_, _, rfl, ⟨by omega, by omega⟩, by omega, by omega, (H.out.step2 _ _).1, (H.out.step2 _ _).2⟩
  · obtain ⟨j, rfl⟩ := Int.eq_ofNat_of_zero_le hlo
    have hj : j < len := by omega
    have hr := hb.range j
    obtain ⟨hr1, hr2⟩ := hr
    rcases hb.cells with h0 | ⟨b, o, rfl, hbl, hcell⟩
    · omega
    have hcj := hcell j hj
    have hne : b < sb := hap b o rfl (by omega)
    clear hcell hb hap
    go_enter Tryd.func92, Tryd.ntmps92
    go_wp2
    go_quiet (fail)
    go_wp2
    go_quiet (fail)
    go_wp2
    go_ret
    have hw : wrap64 (zs[j]?.getD 0) = zs.getD j 0 := by rw [IntWalk.wrap64_in _ (by simp at hr1 hr2; omega)]; simp
    exact ⟨_, _, int_eq hw, ⟨hr1, hr2⟩, by omega, by omega, (H.out.step2 _ _).1, (H.out.step2 _ _).2⟩
theorem pick_c (n : Int) (sb : Nat) (a : Option Addr) (len cap : Nat) (zs : List Int) (k : Int) (w : World) (h : Src w sb a len cap zs k) (hk : k ≤ 999999990) (hn : n ≤ 1000000) :
    Calls Tryd.prog 48 #[.pointer (some ⟨sb, 0, none⟩), .int .i64 n] w (Got sb a len cap zs k 2 (fun v => 0 ≤ v ∧ (v < n ∨ v = 0)) w) := by
  by_cases h1 : n < 1
  · have H := hid h
    clear h
    go_enter Tryd.func48, Tryd.ntmps48
    go_wp2
    go_ret
    exact ⟨0, k, rfl, ⟨by omega, by omega⟩, by omega, by omega, H.out, Moved.refl _ _⟩
  · by_cases h2 : 256 < n
    · have H := hid h
      clear h
      go_enter Tryd.func48, Tryd.ntmps48
      go_wp2_with fail
      refine (next_c sb a len cap zs k w H.out (by omega)).mono ?_
      rintro e w1 ⟨v1, k1, rfl, ⟨hv1, hv2⟩, hk1, hk2, s1, m1⟩
      have S1 := hid s1
      clear s1
      go_wp2_with fail
      refine (next_c sb a len cap zs k1 w1 S1.out (by omega)).mono ?_
      rintro e w2 ⟨v2, k2, rfl, ⟨hv3, hv4⟩, hk3, hk4, s2, m2⟩
      have S2 := hid s2
      clear s2
      go_wp2_with fail
      go_ret
      have g0 := Int.emod_nonneg (v1 * 256 + v2) (show n ≠ 0 by omega)
      have g1 := Int.emod_lt_of_pos (v1 * 256 + v2) (show 0 < n by omega)
      exact ⟨_, k2, rfl, ⟨by omega, by omega⟩, by omega, by omega, S2.out, m1.trans m2⟩
    · have H := hid h
      clear h
      go_enter Tryd.func48, Tryd.ntmps48
      go_wp2_with fail
      refine (next_c sb a len cap zs k w H.out (by omega)).mono ?_
      rintro e w1 ⟨v1, k1, rfl, ⟨hv1, hv2⟩, hk1, hk2, s1, m1⟩
      have S1 := hid s1
      clear s1
      go_wp2_with fail
      go_ret
      have g0 := Int.emod_nonneg v1 (show n ≠ 0 by omega)
      have g1 := Int.emod_lt_of_pos v1 (show 0 < n by omega)
      exact ⟨_, k1, rfl, ⟨by omega, by omega⟩, by omega, by omega, S1.out, m1⟩
end Go.Proofs.YtffibmlgdacafaaDoor.Src
namespace Go.Proofs.YtffibmlgdacafaaDoor.Src
open Go.RowKit Pl

theorem Bytes.alloc {w : World} {a : Option Addr} {len : Nat} {zs : List Int} (h : Bytes w a len zs) (o : Obj) : Bytes (w.alloc o) a len zs := by
  refine ⟨h.small, ?_, h.range⟩
  rcases h.cells with h0 | ⟨b, off, e, hlt, hc⟩
  · exact Or.inl h0
  · refine Or.inr ⟨b, off, e, by simp; omega, fun i hi => ?_⟩
    have := hc i hi
    rw [World.cell?_of_block (w := w) (Below.heap_alloc w o b hlt)]; exact this
theorem Src.alloc {sb : Nat} {a : Option Addr} {len cap : Nat} {zs : List Int} {k : Int} {w : World} (h : Src w sb a len cap zs k) (o : Obj) : Src (w.alloc o) sb a len cap zs k := by
  refine ⟨?_, ?_, ?_, h.lo, h.bytes.alloc o, h.apart, by have := h.here; simp; omega⟩
  · rw [World.cell?_of_block (w := w) (Below.heap_alloc w o sb h.here)]; exact h.code
  · rw [World.cell?_of_block (w := w) (Below.heap_alloc w o sb h.here)]; exact h.at_
  · rw [World.frozen?_of_block (w := w) (Below.heap_alloc w o sb h.here)]; exact h.free
theorem from_c (a : Option Addr) (len cap : Nat) (zs : List Int) (w : World) (hB : Bytes w a len zs) :
    Calls Tryd.prog 47 #[.slice a len cap] w fun e w' => ∃ sb, e = .returned (.pointer (some ⟨sb, 0, none⟩)) ∧ w.heap.size ≤ sb ∧ Src w' sb a len cap zs 0 ∧ Below w.heap.size w w' := by
  have H2 : Hid (∀ b o, a = some ⟨b, o, none⟩ → 0 < len → b < w.heap.size) := by
    intro b o e hl
    rcases hB.cells with h0 | ⟨b', o', e', hlt, _⟩
    · omega
    · rw [e] at e'
      cases e'
      exact hlt
  have H := hid hB
  clear hB
  go_enter Tryd.func47, Tryd.ntmps47
  go_wp2
  go_ret
  refine ⟨_, rfl, Nat.le_refl _, ⟨?_, ?_, ?_, by omega, H.out.alloc _, H2.out, by simp⟩, (Below.refl _ _).alloc (Nat.le_refl _) _⟩
  · simp [go_sem]
  · simp [go_sem]
  · simp [go_sem]
theorem Got.mono {sb : Nat} {a : Option Addr} {len cap : Nat} {zs : List Int} {k d d' : Int} {P : Int → Prop} {w w0 : World} {e : Ending} {w' : World} (h : Got sb a len cap zs k d P w e w') (hd : d ≤ d') (m : Moved sb w0 w) : Got sb a len cap zs k d' P w0 e w' := by
  obtain ⟨v, k', h1, h2, h3, h4, h5, h6⟩ := h
  exact ⟨v, k', h1, h2, h3, by omega, h5, m.trans h6⟩
theorem lt14 {v : Int} (h0 : 0 ≤ v) (h1 : v < 14) : v = 0 ∨ v = 1 ∨ v = 2 ∨ v = 3 ∨ v = 4 ∨ v = 5 ∨ v = 6 ∨ v = 7 ∨ v = 8 ∨ v = 9 ∨ v = 10 ∨ v = 11 ∨ v = 12 ∨ v = 13 := by omega
theorem word_c (sb : Nat) (a : Option Addr) (len cap : Nat) (zs : List Int) (k : Int) (w : World) (h : Src w sb a len cap zs k) (hk : k ≤ 999999980) :
    Calls Tryd.prog 58 #[.pointer (some ⟨sb, 0, none⟩)] w (Got sb a len cap zs k 4 (fun v => 0 ≤ v ∧ v ≤ 65535) w) := by
  have hsb := h.here
  have H := hid h
  clear h
  go_enter Tryd.func58, Tryd.ntmps58
  go_wp2_with fail
  refine (pick_c 3 sb a len cap zs k _ (H.out.alloc _) (by omega) (by omega)).mono ?_
  rintro e w1 ⟨v1, k1, rfl, ⟨hv1, hv2⟩, hk1, hk2, s1, m1⟩
  have S1 := hid s1
  clear s1
  by_cases hz : v1 = 0
  · subst hz
    go_wp2_with fail
    refine (pick_c 65536 sb a len cap zs k1 _ S1.out (by omega) (by omega)).mono ?_
    rintro e w2 ⟨v2, k2, rfl, ⟨hv3, hv4⟩, hk3, hk4, s2, m2⟩
    have S2 := hid s2
    clear s2
    go_wp2_with fail
    go_ret
    exact ⟨_, k2, rfl, ⟨by omega, by omega⟩, by omega, by omega, S2.out, (((Moved.refl _ _).alloc _).trans m1).trans m2⟩
  · have hz' : (v1 == 0) = false := by simpa using hz
    go_wp2_with fail
    refine (pick_c 14 sb a len cap zs k1 _ S1.out (by omega) (by omega)).mono ?_
    rintro e w2 ⟨v2, k2, rfl, ⟨hv3, hv4⟩, hk3, hk4, s2, m2⟩
    have hc1 : ∀ o, w2.cell? ⟨w.heap.size, o, none⟩ = _ := fun o => (m2.cell (by have := m1.size; simp at this; omega) (by omega)).trans (m1.cell (o := o) (by simp) (by omega))
    have S2 := hid s2
    clear s2
    have M2 := hid ((((Moved.refl _ _).alloc _).trans m1).trans m2)
    clear m1 m2
    rcases lt14 hv3 (by omega) with rfl | rfl | rfl | rfl | rfl | rfl | rfl | rfl | rfl | rfl | rfl | rfl | rfl | rfl
    all_goals
      go_wp2_with fail
      go_ret
      exact ⟨_, k2, rfl, ⟨by omega, by omega⟩, by omega, by omega, S2.out, M2.out⟩

/- The draws of chapter 1. -/
end Go.Proofs.YtffibmlgdacafaaDoor.Src
