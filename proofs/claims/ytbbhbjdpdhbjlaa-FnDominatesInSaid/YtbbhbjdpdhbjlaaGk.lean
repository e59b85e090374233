/- The laws' own marks in a graph; graphs that came in. -/
import Derived.Test.YtbbhbjdpdhbjlaaGr
import Derived.ProofKit
import Derived.OpenShut
set_option linter.unusedSimpArgs false
set_option linter.unusedVariables false
namespace Go.Proofs.Ytbbhbjdpdhbjlaa.Ge
open Go.RowKit Go.ChangeShapes Go.WideShapes Go.Deep Pl Ft Mm In Gp

def CapOk (v : Value) : Prop := ∃ a n c, v = .slice a n c ∧ n ≤ c

/-- Rows of different element types lie in different blocks. -/
theorem own_apart {w : World} {b1 b2 : Nat} {e1 e2 : TypeId} {s1 s2 : Nat} {v1 v2 : Value} {n1 n2 : Nat} {xs ys : List Value} (h1 : w.ownsRow b1 e1 s1 v1 n1 xs) (h2 : w.ownsRow b2 e2 s2 v2 n2 ys) (hne : e1 ≠ e2) (g : Nat) (hg : v1.ownBlock = some g) : v2.ownBlock ≠ some g := by
  intro hg2
  rcases h1.2 with ⟨rfl, _⟩ | ⟨g1, cap, cur, rfl, _, hr, _⟩
  · cases hg
  rcases h2.2 with ⟨rfl, _⟩ | ⟨g2, cap2, cur2, rfl, _, hr2, _⟩
  · cases hg2
  simp only [Value.ownBlock, Option.some.injEq] at hg hg2
  subst hg
  subst hg2
  rw [hr] at hr2
  simp only [Option.some.injEq, Obj.cells.injEq] at hr2
  exact hne hr2.2.1
set_option maxHeartbeats 1000000 in
theorem markIntS_k (B s : Nat) (xs : List Int) (v : Value) (w : World) (hown : w.ownsRow B 3 1 v xs.length (ints xs)) (hl : xs.length ≤ 1048576) (hs : s ≤ 2251799813685248) :
    Calls Try.prog 42 #[v, .int .i64 s] w fun e w' => e = .returned (.int .i64 ((s + xs.length : Nat) : Int)) ∧ w'.ownsRow B 3 1 v xs.length (ints (upFrom s xs.length)) ∧ Only (fun g => v.ownBlock = some g) w w' := by
  obtain ⟨va, cap, rfl⟩ := own_slice hown
  have HO := hid hown
  clear hown
  go_enter Try.func42, Try.ntmps42
  go_wp2
  go_loopw [1, 5] (fun y c wr => ∃ k : Nat, c = .int .i64 k ∧ y = .int .i64 (s + k) ∧ k ≤ xs.length ∧ wr.ownsRow B 3 1 (.slice va xs.length cap) xs.length (ints (upFrom s k ++ xs.drop k)) ∧ Only (fun g => (Value.slice va xs.length cap).ownBlock = some g) w wr) (fun _ c _ => xs.length - (intOf c).toNat)
  case atStart => exact ⟨0, rfl, by simp, by omega, by simpa [upFrom] using HO.out, Only.refl _ _⟩
  case round =>
    obtain ⟨k, rfl, rfl, hk, hown, hbel⟩ := hrel
    by_cases hlt : k < xs.length
    · obtain ⟨g, cap', hv, hg1, hg2⟩ := own_addr hown (by omega)
      have ha : va = some ⟨g, 0, none⟩ := by simp at hv; exact hv.1
      subst ha
      have hcell := hown.cellAt k (by omega)
      have hsome : ∃ u, (ints (upFrom s k ++ xs.drop k))[k]? = some u := by
        have hlen : k < (ints (upFrom s k ++ xs.drop k)).length := by simp [ints, upFrom]; omega
        exact ⟨_, List.getElem?_eq_getElem hlen⟩
      obtain ⟨u, hu⟩ := hsome
      rw [hu] at hcell
      have hfz := hown.frozenAt k
      have hst := hown.stored k (.int .i64 (s + k))
      rw [mark_step s xs k hlt] at hst
      have HS := hid hst
      have HB2 := hid (hbel.setCell (g := g) rfl k (.int .i64 (s + k)))
      clear hst hown hbel hu hv
      go_wp2_with fail
      go_roundw
      case rel => exact ⟨k + 1, by go_num, by go_num, by omega, HS.out.1, HB2.out⟩
      case measure => simp [intOf]; omega
    · obtain rfl : k = xs.length := by omega
      have HO2 := hid hown
      have HB2 := hid hbel
      clear hown hbel
      go_wp2_with fail
      go_ret
      exact ⟨int_eq (by omega), by simpa using HO2.out, HB2.out⟩
set_option maxHeartbeats 2000000 in
theorem markIntSS_c (g : List (List Int)) (v : Value) (us : List Value) (lo : Nat) (w : World) (h : GOwn lo w v g us) (hs : Sz g) :
    Calls Try.prog 41 #[v, .int .i64 1] w fun e w' => ∃ q : Nat, e = .returned (.int .i64 q) ∧ 1 ≤ q ∧ Only (fun k => ∃ j, j < g.length ∧ (us.getD j vz).ownBlock = some k) w w' := by
  obtain ⟨s, cs, hve⟩ := own_slice h.row
  subst hve
  have HO := hid h
  have HS := hid hs
  have hl := hs.len
  have HRow := hid h.row
  have hul := h.len
  rw [hul] at HRow ⊢
  clear h hs
  go_enter Try.func41, Try.ntmps41
  go_wp2_with fail
  go_loopw [1, 5] (fun q c wr => ∃ (k m : Nat), c = .int .i64 k ∧ q = .int .i64 m ∧ k ≤ g.length ∧ 1 ≤ m ∧ m ≤ 1 + k * 1048576 ∧ Only (fun b => ∃ j, j < k ∧ (us.getD j vz).ownBlock = some b) w wr) (fun _ c _ => g.length - (intOf c).toNat)
  case atStart => exact ⟨0, 1, rfl, rfl, by omega, by omega, by omega, Only.refl _ _⟩
  case round =>
    obtain ⟨k, m, rfl, rfl, hk, hm1, hm2, hon⟩ := hrel
    have HOn := hid hon
    clear hon
    by_cases hlt : k < g.length
    · have hp : 0 < g.length := by omega
      obtain ⟨b, cap, hv, hb1, hb2⟩ := own_addr HRow.out hp
      simp only [Value.slice.injEq, true_and] at hv
      obtain ⟨rfl, rfl⟩ := hv
      have hrow : wr.ownsRow lo 26 1 (.slice (some ⟨b, 0, none⟩) g.length cs) g.length us := own_only HRow.out (fun b' hb' h => by
        obtain ⟨j, hj, hjb⟩ := h
        have hjg : j < g.length := by omega
        exact own_apart HRow.out (HO.out.lists j hjg) (by decide) b' hb' hjb) HOn.out
      have hlist := own_only (HO.out.lists k hlt) (fun b' hb' h => by
        obtain ⟨j, hj, hjb⟩ := h
        exact HO.out.apart j k hj hlt b' hjb hb') HOn.out
      have hsk := HS.out.each k hlt
      obtain ⟨u, hu⟩ : ∃ u, us.getD k vz = u := ⟨_, rfl⟩
      have HU := hid hu
      rw [hu] at hlist
      obtain ⟨l, hl9⟩ : ∃ l, g.getD k [] = l := ⟨_, rfl⟩
      rw [hl9] at hlist hsk
      have HLi := hid hlist
      have hcell := hrow.cellAt k (by omega)
      have hge : us[k]? = some u := by rw [← hu]; simp [hul, hlt]
      rw [hge] at hcell
      obtain ⟨su, cu, rfl⟩ := own_slice hlist
      have hm3 : m ≤ 2251799813685248 := by omega
      clear hrow hlist hu hl9 hge
      go_wp2_with fail
      refine (markIntS_k lo m l _ wr HLi.out hsk hm3).mono ?_
      rintro e w2 ⟨rfl, _, ho2⟩
      have HO2 := hid ho2
      clear ho2
      go_wp2_with fail
      go_roundw
      case rel => exact ⟨k + 1, m + l.length, by go_num, rfl, by omega, by omega, by omega, (HOn.out.mono (fun b' h => by obtain ⟨j, hj, h⟩ := h; exact ⟨j, by omega, h⟩)).trans (HO2.out.mono (fun b' h => ⟨k, by omega, by rw [HU.out]; exact h⟩))⟩
      case measure => simp [intOf]; omega
    · obtain rfl : k = g.length := by omega
      go_wp2_with fail
      go_ret
      exact ⟨m, rfl, hm1, HOn.out⟩
section
variable {P : Program} {w : World} {base : Nat} {spare : Nat → Bool} {held : Bool} {H : Type} {enc : TypeId × Value → H}
/-- A slice of numbers that came in. -/
theorem ints_of {t e : TypeId} {fuel : Nat} {u : Value} {x : DataW H × List MemPlace} (ht : P.underlying t = some (.slice e)) (he : P.underlying e = some (.int .i64)) (hc : P.cellsOf e = 1)
    (h : DataW.trod enc P w base spare held fuel t [u] = some x) : ∃ xs : List Int, Rd w u xs ∧ CapOk u ∧ xs.length ≤ maxLen := by
  rcases open_ints ht he hc h with ⟨hcs, _⟩ | ⟨a, len, cap, zs, hcs, _, hl, hm, hz, _, hcell, _⟩
  · simp only [List.cons.injEq, and_true] at hcs
    subst hcs
    exact ⟨[], Rd.nil _ _, ⟨_, _, _, rfl, Nat.le_refl _⟩, Nat.zero_le _⟩
  · simp only [List.cons.injEq, and_true] at hcs
    subst hcs
    have hlz : len ≤ zs.length := by rw [hz]; split <;> omega
    have htl : (zs.take len).length = len := by rw [List.length_take]; omega
    refine ⟨zs.take len, ?_, ⟨_, _, _, rfl, hl⟩, by omega⟩
    have := rd_of_cells (w := w) (ad := a) (xs := zs.take len) (cap := cap) (fun j hj => by
      rw [htl] at hj
      rw [hcell j (by omega)]
      congr 2
      rw [List.getD_eq_getElem?_getD, List.getD_eq_getElem?_getD, List.getElem?_take_of_lt hj])
    rwa [htl] at this
/-- A slice of slices of numbers that came in. -/
theorem graph_of {t e i : TypeId} {fuel : Nat} {u : Value} {x : DataW H × List MemPlace} (ht : P.underlying t = some (.slice e)) (he : P.underlying e = some (.slice i)) (hi : P.underlying i = some (.int .i64)) (hc : P.cellsOf e = 1) (hci : P.cellsOf i = 1)
    (h : DataW.trod enc P w base spare held fuel t [u] = some x) : ∃ g : List (List Int), GRd w u g ∧ g.length ≤ maxLen ∧ ∀ j, j < g.length → (g.getD j []).length ≤ maxLen := by
  rcases open_slice ht h with ⟨hcs, _⟩ | ⟨a, len, cap, m, n, D, Pl, hcs, _, hl, hm, hmm, _, hi2⟩
  · simp only [List.cons.injEq, and_true] at hcs
    subst hcs
    exact ⟨[], ⟨none, 0, rfl, .inl rfl⟩, Nat.zero_le _, fun j hj => by simp at hj⟩
  · simp only [List.cons.injEq, and_true] at hcs
    subst hcs
    have hlm : len ≤ m := by rw [hmm]; split <;> omega
    have each : ∀ j, ∃ q : Value × List Int, j < len → w.cell? (a.add j) = some q.1 ∧ Rd w q.1 q.2 ∧ q.2.length ≤ maxLen := by
      intro j
      by_cases hj : j < len
      · obtain ⟨cs', hc', htr⟩ := hi2 j (by omega)
        rw [hc] at hc'
        obtain ⟨_, hcl, hat⟩ := World.cells?_some hc'
        match cs', hcl with
        | [u0], _ =>
          have a0 := hat 0 (by decide)
          simp only [List.getElem?_cons_zero, Nat.mul_one] at a0
          obtain ⟨xs, hx, _, hxl⟩ := ints_of he hi hci htr
          exact ⟨⟨u0, xs⟩, fun _ => ⟨a0, hx, hxl⟩⟩
      · exact ⟨⟨vz, []⟩, fun h => absurd h hj⟩
    obtain ⟨f, hf⟩ := Classical.skolem.1 each
    have hlen : ((List.range len).map fun j => (f j).2).length = len := by simp
    have hget : ∀ j, j < len → ((List.range len).map fun j => (f j).2).getD j [] = (f j).2 := fun j hj => by simp [hj]
    refine ⟨(List.range len).map fun j => (f j).2, ?_, by rw [hlen]; omega, fun j hj => ?_⟩
    · refine ⟨some a, cap, by rw [hlen], ?_⟩
      by_cases h0 : len = 0
      · left; subst h0; rfl
      · right
        have hz := (hf 0 (by omega)).1
        have e0 : a.add 0 = a := rfl
        rw [e0] at hz
        have hs := cell_spot hz
        refine ⟨a.block, a.off, by rw [← hs], cell_lt hz, fun j hj => ?_⟩
        rw [hlen] at hj
        obtain ⟨h1, h2, h3⟩ := hf j hj
        refine ⟨(f j).1, ?_, by rw [hget j hj]; exact h2⟩
        rw [← add_none, ← hs]
        exact h1
    · rw [hlen] at hj
      rw [hget j hj]
      exact (hf j hj).2.2
end
end Go.Proofs.Ytbbhbjdpdhbjlaa.Ge
