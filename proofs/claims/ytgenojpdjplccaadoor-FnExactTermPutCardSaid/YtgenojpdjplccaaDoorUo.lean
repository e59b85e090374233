/- Arguments opened: a term that came in. -/
import Derived.Test.YtgenojpdjplccaaDoorUm
set_option linter.unusedSimpArgs false
set_option linter.unusedVariables false
namespace Go.Proofs.YtgenojpdjplccaaDoor.Um
open Go.RowKit Pl Ft Mm In C2 Im
open Go.ChangeShapes Go.WideShapes Go.Deep

theorem Lim.mono : ∀ {n m : Nat} {ks : List Tm}, Lim n ks → n ≤ m → Lim m ks
  | 0, 0, _, h, _ => h
  | 0, m + 1, _, h, _ => by
    obtain rfl := h
    exact ⟨by simp, fun j hj => by simp at hj⟩
  | n + 1, 0, _, _, hm => by omega
  | n + 1, m + 1, ks, h, hm => ⟨h.1, fun j hj => ⟨(h.2 j hj).1, Lim.mono (h.2 j hj).2 (by omega)⟩⟩
section
variable {H : Type} {enc : TypeId × Value → H} {P : Program} {w : World} {base : Nat} {spare : Nat → Bool} {held : Bool}
/-- A struct of one-cell fields in a row: what each cell reads as. -/
theorem cells_of {t : TypeId} {fs : Array Field} {fuel : Nat} {cs : List Value} {x : DataW H × List MemPlace} (hs : P.underlying t = some (.struct fs)) (hone : oneCellFields P fs = true)
    (h : DataW.trod enc P w base spare held fuel t cs = some x) :
    ∃ n, fuel = n + 1 ∧ cs.length = P.cellsOf t ∧ ∀ (i : Nat) (f : Field) (u : Value), fs[i]? = some f → cs[i]? = some u → ∃ y, DataW.trod enc P w base spare held n f.type [u] = some y := by
  obtain ⟨xs, n, rfl, _, hl, hlen, hx⟩ := DataW.trod_struct hs h
  refine ⟨n, rfl, hl, fun i f u hi hu => ?_⟩
  obtain ⟨o, k⟩ := hone_of hone i f hi
  have h1 := hx i f hi
  have hil : i < xs.length := by rw [hlen]; exact (Array.getElem?_eq_some_iff.1 hi).1
  rw [List.getElem?_eq_getElem hil, k, o] at h1
  have hc : (cs.drop i).take 1 = [u] := by
    have hl : i < cs.length := (List.getElem?_eq_some_iff.1 hu).1
    have e : cs.drop i = cs[i] :: cs.drop (i + 1) := List.drop_eq_getElem_cons hl
    have e2 : cs[i] = u := (List.getElem?_eq_some_iff.1 hu).2
    rw [e, e2]
    rfl
  rw [hc] at h1
  exact ⟨_, h1⟩
end
section
variable {H : Type} {enc : TypeId × Value → H} {w : World} {base : Nat} {spare : Nat → Bool} {held : Bool}
theorem cells_lterm : Tryd.prog.cellsOf 54 = 4 := by kernel_rfl
theorem krd_of_cells {n : Nat} {ad : Addr} {ks : List Tm} {cap : Nat} (h : ∀ j, j < ks.length → ∃ u, w.cell? (ad.add (j * 4)) = some (.int .i64 (ks.getD j tz).kind) ∧ w.cell? (ad.add (j * 4 + 1)) = some (.int .i64 (ks.getD j tz).num) ∧ w.cell? (ad.add (j * 4 + 2)) = some (.string (ks.getD j tz).text) ∧ w.cell? (ad.add (j * 4 + 3)) = some u ∧ KRd w n u (ks.getD j tz).kids) : KRd w (n + 1) (.slice (some ad) ks.length cap) ks := by
  refine ⟨some ad, cap, rfl, ?_⟩
  by_cases h0 : ks = []
  · exact .inl h0
  · have hp : 0 < ks.length := List.length_pos_iff.2 h0
    obtain ⟨_, hc, _⟩ := h 0 hp
    rw [Nat.zero_mul] at hc
    have e : ad.add 0 = ad := rfl
    rw [e] at hc
    have hs := cell_spot hc
    obtain ⟨b, o, sp⟩ := ad
    simp only [Addr.mk.injEq, true_and] at hs
    subst hs
    refine .inr ⟨b, o, rfl, cell_lt hc, fun j hj => ?_⟩
    obtain ⟨u, c0, c1, c2, c3, hk⟩ := h j hj
    rw [add_none] at c0 c1 c2 c3
    exact ⟨u, c0, by rw [Nat.add_assoc]; exact c1, by rw [Nat.add_assoc]; exact c2, by rw [Nat.add_assoc]; exact c3, hk⟩
set_option maxRecDepth 100000 in
/-- Terms that came in. -/
theorem terms_of (fuel : Nat) : ∀ (u : Value) (x : DataW H × List MemPlace), DataW.trod enc Tryd.prog w base spare held fuel 52 [u] = some x → ∃ ks, KRd w fuel u ks ∧ Lim fuel ks := by
  induction fuel using Nat.strongRecOn with
  | _ fuel ih =>
  intro u x h
  rcases DataW.trod_slice Tryd.underlying52 h with ⟨hcs, _⟩ | ⟨a, len, cap, elems, rest, n, rfl, hcs, _, _, hl, hm, hlen, hel, _⟩
  · simp only [List.cons.injEq, and_true] at hcs
    subst hcs
    refine ⟨[], KRd.nil _ _ _ _, ?_⟩
    cases fuel with
    | zero => rfl
    | succ n => exact ⟨by simp, fun j hj => by simp at hj⟩
  · simp only [List.cons.injEq, and_true] at hcs
    subst hcs
    rw [cells_lterm] at hel
    have each : ∀ i, ∃ q : Tm × Value, i < len → w.cell? (a.add (i * 4)) = some (.int .i64 q.1.kind) ∧ w.cell? (a.add (i * 4 + 1)) = some (.int .i64 q.1.num) ∧ w.cell? (a.add (i * 4 + 2)) = some (.string q.1.text) ∧ w.cell? (a.add (i * 4 + 3)) = some q.2 ∧ q.1.text.size ≤ maxLen ∧ KRd w n q.2 q.1.kids ∧ Lim n q.1.kids := by
      intro i
      by_cases hil : i < len
      · have hi := hel i hil
        rw [List.getElem?_eq_getElem (by omega), Option.bind_eq_some_iff] at hi
        obtain ⟨cs', hc, htr⟩ := hi
        obtain ⟨_, hcl, hat⟩ := World.cells?_some hc
        obtain ⟨m, rfl, _, hf⟩ := cells_of Tryd.underlying54 (by kernel_rfl) htr
        match cs', hcl with
        | [u0, u1, u2, u3], _ =>
          obtain ⟨_, t0⟩ := hf 0 _ u0 rfl rfl
          obtain ⟨_, t1⟩ := hf 1 _ u1 rfl rfl
          obtain ⟨_, t2⟩ := hf 2 _ u2 rfl rfl
          obtain ⟨_, t3⟩ := hf 3 _ u3 rfl rfl
          obtain ⟨k, hk, _, _⟩ := DataW.trod_int Tryd.underlying3 t0
          obtain ⟨z, hz, _, _⟩ := DataW.trod_int Tryd.underlying3 t1
          obtain ⟨s, hs, _, hsz⟩ := DataW.trod_string Tryd.underlying9 t2
          obtain ⟨ks, hks, hlm⟩ := ih m (by omega) u3 _ t3
          simp at hk hz hs
          subst hk hz hs
          have a0 := hat 0 (by decide)
          have a1 := hat 1 (by decide)
          have a2 := hat 2 (by decide)
          have a3 := hat 3 (by decide)
          simp only [List.getElem?_cons_zero, List.getElem?_cons_succ] at a0 a1 a2 a3
          have e : ∀ r, (a.add (i * 4)).add r = a.add (i * 4 + r) := by
            intro r
            unfold Addr.add
            by_cases hi0 : i * 4 = 0 <;> by_cases hr0 : r = 0 <;> simp [hi0, hr0] <;> omega
          rw [e] at a0 a1 a2 a3
          exact ⟨⟨.mk k z s ks, u3⟩, fun _ => ⟨a0, a1, a2, a3, hsz, hks.mono (by omega), hlm.mono (by omega)⟩⟩
      · exact ⟨⟨tz, .slice none 0 0⟩, fun hlt => absurd hlt hil⟩
    obtain ⟨f, hf⟩ := Classical.skolem.1 each
    have hlen2 : ((List.range len).map fun i => (f i).1).length = len := by simp
    have hget : ∀ j, j < len → ((List.range len).map fun i => (f i).1).getD j tz = (f j).1 := by
      intro j hj
      simp [hj]
    refine ⟨(List.range len).map fun i => (f i).1, ?_, ?_⟩
    · have := krd_of_cells (w := w) (n := n) (ad := a) (ks := (List.range len).map fun i => (f i).1) (cap := cap) (fun j hj => by
        rw [hlen2] at hj
        obtain ⟨c0, c1, c2, c3, _, hk, _⟩ := hf j hj
        rw [hget j hj]
        exact ⟨_, c0, c1, c2, c3, hk⟩)
      rwa [hlen2] at this
    · refine ⟨by rw [hlen2]; unfold maxLen at hm; omega, fun j hj => ?_⟩
      rw [hlen2] at hj
      obtain ⟨_, _, _, _, hs, _, hk⟩ := hf j hj
      rw [hget j hj]
      exact ⟨by unfold maxLen at hs; omega, hk⟩
set_option maxRecDepth 100000 in
/-- A term that came in. -/
theorem term_of {b0 : Nat} {r : Reach} {v : Value} {d : DataW H} {p : List MemPlace} (hv : Value.okWide Tryd.prog w r b0 54 v) (h : DataW.Trod enc Tryd.prog w base spare held 54 v d p) :
    ∃ (n : Nat) (t : Tm) (kv : Value), v = tmVal t kv ∧ KRd w n kv t.kids ∧ Lim n t.kids ∧ t.text.size ≤ 9223372036854775807 := by
  obtain ⟨cs, rfl, hsz, hf⟩ := fields_of Tryd.underlying54 (by kernel_rfl) hv h
  rw [cells_lterm] at hsz
  obtain ⟨l⟩ := cs
  match l, hsz with
  | [u0, u1, u2, u3], _ =>
    obtain ⟨_, _, t0⟩ := hf 0 _ u0 rfl rfl
    obtain ⟨_, _, t1⟩ := hf 1 _ u1 rfl rfl
    obtain ⟨_, _, t2⟩ := hf 2 _ u2 rfl rfl
    obtain ⟨m, _, t3⟩ := hf 3 _ u3 rfl rfl
    obtain ⟨k, hk, _, _⟩ := DataW.trod_int Tryd.underlying3 t0
    obtain ⟨z, hz, _, _⟩ := DataW.trod_int Tryd.underlying3 t1
    obtain ⟨s, hs, _, hsz⟩ := DataW.trod_string Tryd.underlying9 t2
    obtain ⟨ks, hks, hlm⟩ := terms_of m u3 _ t3
    simp at hk hz hs
    subst hk hz hs
    unfold maxLen at hsz
    exact ⟨m, .mk k z s ks, u3, rfl, hks, hlm, by simp only [Tm.text]; omega⟩
end
end Go.Proofs.YtgenojpdjplccaaDoor.Um
