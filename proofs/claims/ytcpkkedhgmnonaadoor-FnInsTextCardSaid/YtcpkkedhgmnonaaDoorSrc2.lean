/- The source of drawn numbers: from, word; and the draws of chapter 1. -/
import Derived.Test.YtcpkkedhgmnonaaDoorSrc
import Derived.Test.YtcpkkedhgmnonaaDoorC1c
set_option linter.unusedSimpArgs false
set_option linter.unusedVariables false
namespace Go.Proofs.YtcpkkedhgmnonaaDoor.Src
open Go.RowKit Pl

theorem Bytes.alloc {w : World} {a : Option Addr} {len : Nat} {zs : List Int} (h : Bytes w a len zs) (o : Obj) : Bytes (w.alloc o) a len zs := by
  refine ⟨h.small, ?_, h.range⟩
  rcases h.cells with h0 | ⟨b, off, e, hlt, hc⟩
  · exact Or.inl h0
  · refine Or.inr ⟨b, off, e, by simp; omega, fun i hi => ?_⟩
    have := hc i hi
    rw [World.cell?_of_block (w := w) (Below.heap_alloc w o b hlt)]; exact this
theorem Src.alloc {sb : Nat} {a : Option Addr} {len cap : Nat} {zs : List Int} {k : Int} {w : World} (h : Src w sb a len cap zs k) (o : Obj) : Src (w.alloc o) sb a len cap zs k := by
  refine ⟨?_, ?_, ?_, h.lo, h.bytes.alloc o, h.apart, by have := h.here; simp; omega⟩
  · rw [World.cell?_of_block (w := w) (Below.heap_alloc w o sb h.here)]; exact h.code
  · rw [World.cell?_of_block (w := w) (Below.heap_alloc w o sb h.here)]; exact h.at_
  · rw [World.frozen?_of_block (w := w) (Below.heap_alloc w o sb h.here)]; exact h.free
theorem from_c (a : Option Addr) (len cap : Nat) (zs : List Int) (w : World) (hB : Bytes w a len zs) :
    Calls Tryd.prog 10 #[.slice a len cap] w fun e w' => ∃ sb, e = .returned (.pointer (some ⟨sb, 0, none⟩)) ∧ w.heap.size ≤ sb ∧ Src w' sb a len cap zs 0 ∧ Below w.heap.size w w' := by
  have H2 : Hid (∀ b o, a = some ⟨b, o, none⟩ → 0 < len → b < w.heap.size) := by
    intro b o e hl
    rcases hB.cells with h0 | ⟨b', o', e', hlt, _⟩
    · omega
    · rw [e] at e'
      cases e'
      exact hlt
  have H := hid hB
  clear hB
  go_enter Tryd.func10, Tryd.ntmps10
  go_wp2
  go_ret
  refine ⟨_, rfl, Nat.le_refl _, ⟨?_, ?_, ?_, by omega, H.out.alloc _, H2.out, by simp⟩, (Below.refl _ _).alloc (Nat.le_refl _) _⟩
  · simp [go_sem]
  · simp [go_sem]
  · simp [go_sem]
theorem Got.mono {sb : Nat} {a : Option Addr} {len cap : Nat} {zs : List Int} {k d d' : Int} {P : Int → Prop} {w w0 : World} {e : Ending} {w' : World} (h : Got sb a len cap zs k d P w e w') (hd : d ≤ d') (m : Moved sb w0 w) : Got sb a len cap zs k d' P w0 e w' := by
  obtain ⟨v, k', h1, h2, h3, h4, h5, h6⟩ := h
  exact ⟨v, k', h1, h2, h3, by omega, h5, m.trans h6⟩
theorem lt14 {v : Int} (h0 : 0 ≤ v) (h1 : v < 14) : v = 0 ∨ v = 1 ∨ v = 2 ∨ v = 3 ∨ v = 4 ∨ v = 5 ∨ v = 6 ∨ v = 7 ∨ v = 8 ∨ v = 9 ∨ v = 10 ∨ v = 11 ∨ v = 12 ∨ v = 13 := by omega
theorem word_c (sb : Nat) (a : Option Addr) (len cap : Nat) (zs : List Int) (k : Int) (w : World) (h : Src w sb a len cap zs k) (hk : k ≤ 999999980) :
    Calls Tryd.prog 21 #[.pointer (some ⟨sb, 0, none⟩)] w (Got sb a len cap zs k 4 (fun v => 0 ≤ v ∧ v ≤ 65535) w) := by
  have hsb := h.here
  have H := hid h
  clear h
  go_enter Tryd.func21, Tryd.ntmps21
  go_wp2_with fail
  refine (pick_c 3 sb a len cap zs k _ (H.out.alloc _) (by omega) (by omega)).mono ?_
  rintro e w1 ⟨v1, k1, rfl, ⟨hv1, hv2⟩, hk1, hk2, s1, m1⟩
  have S1 := hid s1
  clear s1
  by_cases hz : v1 = 0
  · subst hz
    go_wp2_with fail
    refine (pick_c 65536 sb a len cap zs k1 _ S1.out (by omega) (by omega)).mono ?_
    rintro e w2 ⟨v2, k2, rfl, ⟨hv3, hv4⟩, hk3, hk4, s2, m2⟩
    have S2 := hid s2
    clear s2
    go_wp2_with fail
    go_ret
    exact ⟨_, k2, rfl, ⟨by omega, by omega⟩, by omega, by omega, S2.out, (((Moved.refl _ _).alloc _).trans m1).trans m2⟩
  · have hz' : (v1 == 0) = false := by simpa using hz
    go_wp2_with fail
    refine (pick_c 14 sb a len cap zs k1 _ S1.out (by omega) (by omega)).mono ?_
    rintro e w2 ⟨v2, k2, rfl, ⟨hv3, hv4⟩, hk3, hk4, s2, m2⟩
    have hc1 : ∀ o, w2.cell? ⟨w.heap.size, o, none⟩ = _ := fun o => (m2.cell (by have := m1.size; simp at this; omega) (by omega)).trans (m1.cell (o := o) (by simp) (by omega))
    have S2 := hid s2
    clear s2
    have M2 := hid ((((Moved.refl _ _).alloc _).trans m1).trans m2)
    clear m1 m2
    rcases lt14 hv3 (by omega) with rfl | rfl | rfl | rfl | rfl | rfl | rfl | rfl | rfl | rfl | rfl | rfl | rfl | rfl
    all_goals
      go_wp2_with fail
      go_ret
      exact ⟨_, k2, rfl, ⟨by omega, by omega⟩, by omega, by omega, S2.out, M2.out⟩

/- The draws of chapter 1. -/
end Go.Proofs.YtcpkkedhgmnonaaDoor.Src
