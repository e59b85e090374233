/- Graphs in memory: slices of slices of numbers; the laws' own helpers over them; graphs that came in. -/
import Derived.Test.YtbbhbjdpdhbjlaaGm
import Derived.ChangeShapes
import Derived.ChangeSlices
import Derived.ChangeArms
import Derived.WideShapes
import Derived.Deep.Fields
import Derived.Deep.Slices
import Derived.DataReads
set_option linter.unusedSimpArgs false
set_option linter.unusedVariables false
namespace Go.Proofs.Ytbbhbjdpdhbjlaa.Ge
open Go.RowKit Go.ChangeShapes Go.WideShapes Pl Ft Mm In Gp

/-- The slice v reads as these lists of numbers. -/
def GRd (w : World) (v : Value) (g : List (List Int)) : Prop :=
  ∃ a cap, v = .slice a g.length cap ∧ (g = [] ∨ ∃ b o, a = some ⟨b, o, none⟩ ∧ b < w.heap.size ∧ ∀ j, j < g.length → ∃ u, w.cell? ⟨b, o + j, none⟩ = some u ∧ Rd w u (g.getD j []))
theorem GRd.on {w w' : World} {v : Value} {g : List (List Int)} (h : GRd w v g) (hb : Below w.heap.size w w') : GRd w' v g := by
  obtain ⟨a, cap, e, h⟩ := h
  refine ⟨a, cap, e, ?_⟩
  rcases h with h | ⟨b, o, ea, hg, hc⟩
  · exact .inl h
  · refine .inr ⟨b, o, ea, Nat.lt_of_lt_of_le hg hb.size, fun j hj => ?_⟩
    obtain ⟨u, hu, hr⟩ := hc j hj
    exact ⟨u, (hb.cell (p := ⟨b, o + j, none⟩) hg).trans hu, hr.on hb⟩
theorem GRd.slice {w : World} {v : Value} {g : List (List Int)} (h : GRd w v g) : ∃ a cap, v = .slice a g.length cap := by
  obtain ⟨a, cap, e, _⟩ := h
  exact ⟨a, cap, e⟩
theorem Rd.slice {w : World} {v : Value} {xs : List Int} (h : Rd w v xs) : ∃ a cap, v = .slice a xs.length cap := by
  obtain ⟨a, cap, e, _⟩ := h
  exact ⟨a, cap, e⟩
def vz : Value := .slice none 0 0
/-- A graph of one's own: the row of its lists, and each list, all in blocks from lo on, no two lists in one. -/
structure GOwn (lo : Nat) (w : World) (v : Value) (g : List (List Int)) (us : List Value) : Prop where
  len : us.length = g.length
  row : w.ownsRow lo 26 1 v us.length us
  lists : ∀ j, j < g.length → w.ownsRow lo 3 1 (us.getD j vz) (g.getD j []).length (ints (g.getD j []))
  apart : ∀ i j, i < j → j < g.length → ∀ k, (us.getD i vz).ownBlock = some k → (us.getD j vz).ownBlock ≠ some k
theorem GOwn.rd {lo : Nat} {w : World} {v : Value} {g : List (List Int)} {us : List Value} (h : GOwn lo w v g us) : GRd w v g := by
  obtain ⟨a, cap, rfl⟩ := own_slice h.row
  rw [h.len]
  refine ⟨a, cap, rfl, ?_⟩
  by_cases h0 : g = []
  · exact .inl h0
  · have hp : 0 < us.length := by rw [h.len]; exact List.length_pos_iff.2 h0
    obtain ⟨b, cap', hv, _, hg⟩ := own_addr h.row hp
    have ha : a = some ⟨b, 0, none⟩ := by simp at hv; exact hv.1
    subst ha
    refine .inr ⟨b, 0, rfl, hg, fun j hj => ⟨us.getD j vz, ?_, Rd.of_own (h.lists j hj)⟩⟩
    have hju : j < us.length := by rw [h.len]; exact hj
    have := h.row.cells (g := b) rfl j (us.getD j vz) (by simp [hju])
    have e : (⟨b, 0, none⟩ : Addr).add j = ⟨b, j, none⟩ := by unfold Addr.add; split <;> simp_all
    rw [e] at this
    rw [Nat.zero_add]
    exact this
theorem GOwn.on {lo : Nat} {w w' : World} {v : Value} {g : List (List Int)} {us : List Value} (h : GOwn lo w v g us) (hb : Below w.heap.size w w') : GOwn lo w' v g us :=
  ⟨h.len, own_on h.row hb, fun j hj => own_on (h.lists j hj) hb, h.apart⟩
/-- A graph whose lists lie in blocks that there are. -/
structure GAt (B : Nat) (w : World) (v : Value) (g : List (List Int)) : Prop where
  rd : ∃ a cap, v = .slice a g.length cap ∧ (g = [] ∨ ∃ b o, a = some ⟨b, o, none⟩ ∧ b < B ∧ ∀ j, j < g.length → ∃ u, w.cell? ⟨b, o + j, none⟩ = some u ∧ Rd w u (g.getD j []) ∧ ∀ k, u.ownBlock = some k → k < B)
  le : B ≤ w.heap.size
theorem GAt.slice {B : Nat} {w : World} {v : Value} {g : List (List Int)} (h : GAt B w v g) : ∃ a cap, v = .slice a g.length cap := by
  obtain ⟨a, cap, e, _⟩ := h.rd
  exact ⟨a, cap, e⟩
theorem Rd.below {B : Nat} {w w' : World} {u : Value} {xs : List Int} (h : Rd w u xs) (hk : ∀ k, u.ownBlock = some k → k < B) (hb : Below B w w') : Rd w' u xs := by
  obtain ⟨a, cap, rfl, h⟩ := h
  refine ⟨a, cap, rfl, ?_⟩
  rcases h with h | ⟨g, o, rfl, hg, hc⟩
  · exact .inl h
  · refine .inr ⟨g, o, rfl, Nat.lt_of_lt_of_le hg hb.size, fun j hj => ?_⟩
    rw [hb.cell (p := ⟨g, o + j, none⟩) (hk g rfl)]
    exact hc j hj
theorem Rd.only {p : Nat → Prop} {w w' : World} {u : Value} {xs : List Int} (h : Rd w u xs) (hk : ∀ k, u.ownBlock = some k → ¬ p k) (hb : Only p w w') : Rd w' u xs := by
  obtain ⟨a, cap, rfl, h⟩ := h
  refine ⟨a, cap, rfl, ?_⟩
  rcases h with h | ⟨g, o, rfl, hg, hc⟩
  · exact .inl h
  · refine .inr ⟨g, o, rfl, Nat.lt_of_lt_of_le hg hb.size, fun j hj => ?_⟩
    have hblk := hb.block g hg (hk g rfl)
    have := hc j hj
    unfold World.cell? at this ⊢
    rw [hblk]
    exact this
theorem GAt.below {B : Nat} {w w' : World} {v : Value} {g : List (List Int)} (h : GAt B w v g) (hb : Below B w w') : GAt B w' v g := by
  refine ⟨?_, Nat.le_trans h.le hb.size⟩
  obtain ⟨a, cap, e, h⟩ := h.rd
  refine ⟨a, cap, e, ?_⟩
  rcases h with h | ⟨b, o, ea, hg, hc⟩
  · exact .inl h
  · refine .inr ⟨b, o, ea, hg, fun j hj => ?_⟩
    obtain ⟨u, hu, hr, hk⟩ := hc j hj
    exact ⟨u, (hb.cell (p := ⟨b, o + j, none⟩) hg).trans hu, Rd.below hr hk hb, hk⟩
theorem GAt.on {B : Nat} {w w' : World} {v : Value} {g : List (List Int)} (h : GAt B w v g) (hb : Below w.heap.size w w') : GAt B w' v g := h.below (hb.mono h.le)
theorem GAt.mono {B B' : Nat} {w : World} {v : Value} {g : List (List Int)} (h : GAt B w v g) (hB : B ≤ B') (hw : B' ≤ w.heap.size) : GAt B' w v g := by
  refine ⟨?_, hw⟩
  obtain ⟨a, cap, e, h⟩ := h.rd
  refine ⟨a, cap, e, ?_⟩
  rcases h with h | ⟨b, o, ea, hg, hc⟩
  · exact .inl h
  · refine .inr ⟨b, o, ea, by omega, fun j hj => ?_⟩
    obtain ⟨u, hu, hr, hk⟩ := hc j hj
    exact ⟨u, hu, hr, fun k h => by have := hk k h; omega⟩
theorem GAt.grd {B : Nat} {w : World} {v : Value} {g : List (List Int)} (h : GAt B w v g) : GRd w v g := by
  obtain ⟨a, cap, e, h2⟩ := h.rd
  refine ⟨a, cap, e, ?_⟩
  rcases h2 with h2 | ⟨b, o, ea, hg, hc⟩
  · exact .inl h2
  · refine .inr ⟨b, o, ea, Nat.lt_of_lt_of_le hg h.le, fun j hj => ?_⟩
    obtain ⟨u, hu, hr, hk⟩ := hc j hj
    exact ⟨u, hu, hr⟩
theorem GOwn.at_ {lo : Nat} {w : World} {v : Value} {g : List (List Int)} {us : List Value} (h : GOwn lo w v g us) : GAt w.heap.size w v g := by
  refine ⟨?_, Nat.le_refl _⟩
  obtain ⟨a, cap, rfl⟩ := own_slice h.row
  rw [h.len]
  refine ⟨a, cap, rfl, ?_⟩
  by_cases h0 : g = []
  · exact .inl h0
  · have hp : 0 < us.length := by rw [h.len]; exact List.length_pos_iff.2 h0
    obtain ⟨b, cap', hv, _, hg⟩ := own_addr h.row hp
    have ha : a = some ⟨b, 0, none⟩ := by simp at hv; exact hv.1
    subst ha
    refine .inr ⟨b, 0, rfl, hg, fun j hj => ⟨us.getD j vz, ?_, Rd.of_own (h.lists j hj), fun k hk => ((h.lists j hj).lt k hk).2⟩⟩
    have hju : j < us.length := by rw [h.len]; exact hj
    have := h.row.cells (g := b) rfl j (us.getD j vz) (by simp [hju])
    have e : (⟨b, 0, none⟩ : Addr).add j = ⟨b, j, none⟩ := by unfold Addr.add; split <;> simp_all
    rw [e] at this
    rw [Nat.zero_add]
    exact this
/-- An address that holds a cell has no spot: what an argument is reads as what a slice is. -/
theorem cell_spot {w : World} {a : Addr} {u : Value} (h : w.cell? a = some u) : a = ⟨a.block, a.off, none⟩ := by
  unfold World.cell? at h
  split at h
  · split at h
    · cases h
    · rename_i hn
      cases hs : a.spot with
      | none => rw [← hs]
      | some s => rw [hs] at hn; simp at hn
  · cases h
theorem cell_lt {w : World} {a : Addr} {u : Value} (h : w.cell? a = some u) : a.block < w.heap.size := by
  unfold World.cell? at h
  split at h
  · rename_i hs
    exact (Array.getElem?_eq_some_iff.1 hs).1
  · cases h
theorem add_none (g o n : Nat) : (⟨g, o, none⟩ : Addr).add n = ⟨g, o + n, none⟩ := by unfold Addr.add; split <;> simp_all
theorem rd_of_cells {w : World} {ad : Addr} {xs : List Int} {cap : Nat} (h : ∀ j, j < xs.length → w.cell? (ad.add j) = some (.int .i64 (xs.getD j 0))) : Rd w (.slice (some ad) xs.length cap) xs := by
  refine ⟨some ad, cap, rfl, ?_⟩
  by_cases h0 : xs = []
  · exact .inl h0
  · have hp : 0 < xs.length := List.length_pos_iff.2 h0
    have hc := h 0 hp
    have e : ad.add 0 = ad := rfl
    rw [e] at hc
    have hs := cell_spot hc
    refine .inr ⟨ad.block, ad.off, by rw [← hs], cell_lt hc, fun j hj => ?_⟩
    rw [← add_none, ← hs]
    exact h j hj
theorem copy_step (xs : List Int) (Z : List Value) (k : Nat) (h : k < xs.length) (hz : Z.length = xs.length) : (ints (xs.take k) ++ Z.drop k).set k (.int .i64 (xs.getD k 0)) = ints (xs.take (k + 1)) ++ Z.drop (k + 1) := by
  have e : Z.drop k = Z[k]'(by omega) :: Z.drop (k + 1) := List.drop_eq_getElem_cons (by omega)
  have e2 : xs.take (k + 1) = xs.take k ++ [xs.getD k 0] := by rw [List.take_succ_eq_append_getElem h]; simp [h]
  have hl : (ints (xs.take k)).length = k := by simp [ints]; omega
  rw [e, e2, List.set_append_right _ _ (by omega), hl]
  simp only [ints, List.map_append, List.map_cons, List.map_nil, Nat.sub_self, List.set_cons_zero, List.append_assoc, List.singleton_append]
set_option maxHeartbeats 1000000 in
theorem toIntS_c (xs : List Int) (v : Value) (w : World) (ha : Rd w v xs) (hl : xs.length ≤ 1048576) :
    Calls Try.prog 66 #[v] w fun e w' => ∃ v', e = .returned v' ∧ w'.ownsRow w.heap.size 3 1 v' xs.length (ints xs) ∧ Below w.heap.size w w' := by
  obtain ⟨a, cap, rfl, ha⟩ := ha
  have HA := hid ha
  clear ha
  obtain ⟨i0, hi, hz0, hz1, hz2⟩ := info_parts info_int
  have H0 := hid hz0
  have H1 := hid hz1
  have H2 := hid hz2
  have HI := hid hi
  clear hz0 hz1 hz2 hi
  go_enter Try.func66, Try.ntmps66
  go_wp2_with (refine wpList_make_full _ rfl _ _ 26 rfl w.heap.size 3 i0 (.int .i64 0) 1 Try.underlying26 HI.out H0.out H1.out .i64 .i64 _ _ xs.length rfl rfl rfl rfl (by rw [H2.out]; omega) (by simp only [maxLen]; omega) (Nat.le_refl _) ?_; intro w1 hown1 hg1)
  obtain ⟨Z, hZ⟩ : ∃ Z, (madeCells (Value.cells (.int .i64 0)) (xs.length * 1)).toList = Z := ⟨_, rfl⟩
  rw [hZ] at hown1
  have hZl : Z.length = xs.length := by have := hown1.1; omega
  have HZ := hid hZl
  have HO := hid hown1
  have HB1 := hid ((Below.refl w.heap.size w).grown hg1 (Nat.le_refl _) (by simp))
  clear hown1 hg1 hZ hZl
  go_loopw [4] (fun c wr => ∃ k : Nat, c = .int .i64 k ∧ k ≤ xs.length ∧ wr.ownsRow w.heap.size 3 1 (.slice (some ⟨w.heap.size, 0, none⟩) xs.length xs.length) xs.length (ints (xs.take k) ++ Z.drop k) ∧ Below w.heap.size w wr) (fun c _ => xs.length - (intOf c).toNat)
  case atStart => exact ⟨0, rfl, by omega, by simpa [ints] using HO.out, HB1.out⟩
  case round =>
    obtain ⟨k, rfl, hk, hown, hbel⟩ := hrel
    by_cases hlt : k < xs.length
    · rcases HA.out with h | ⟨g, o, rfl, hg, hc⟩
      · subst h; simp at hlt
      have q1 : wr.cell? ⟨g, o + k, none⟩ = some (.int .i64 (xs.getD k 0)) := (hbel.cell (p := ⟨g, o + k, none⟩) hg).trans (hc k hlt)
      have hcell := hown.cellAt k (by omega)
      have hsome : ∃ u, (ints (xs.take k) ++ Z.drop k)[k]? = some u := by
        have hlen : k < (ints (xs.take k) ++ Z.drop k).length := by have := HZ.out; simp [ints]; omega
        exact ⟨_, List.getElem?_eq_getElem hlen⟩
      obtain ⟨u, hu⟩ := hsome
      rw [hu] at hcell
      have hfz := hown.frozenAt k
      have hst := hown.stored k (.int .i64 (xs.getD k 0))
      rw [copy_step xs Z k hlt HZ.out] at hst
      have HS := hid hst
      have HB2 := hid (hbel.setCell (p := ⟨w.heap.size, k, none⟩) (Nat.le_refl _) (.int .i64 (xs.getD k 0)))
      obtain ⟨x, hx⟩ : ∃ x, xs.getD k 0 = x := ⟨_, rfl⟩
      rw [hx] at q1 HS HB2
      clear hst hown hbel hu hc hx
      go_wp2_with fail
      go_roundw
      case rel => exact ⟨k + 1, by go_num, by omega, HS.out.1, HB2.out⟩
      case measure => simp [intOf]; omega
    · obtain rfl : k = xs.length := by omega
      have HO2 := hid hown
      have HB2 := hid hbel
      clear hown hbel
      go_wp2_with fail
      go_ret
      exact ⟨_, rfl, by have := HO2.out; rwa [List.take_length, List.drop_of_length_le (by rw [HZ.out]; exact Nat.le_refl _), List.append_nil] at this, HB2.out⟩
/-- What a size tells: less than what was left, or -1; where it isn't, all is small enough. -/
def SzPost (left : Int) (P : Prop) (w : World) (e : Ending) (w' : World) : Prop := ∃ x : Int, e = .returned (.int .i64 x) ∧ x ≤ left ∧ -1 ≤ x ∧ (0 ≤ x → P) ∧ Below w.heap.size w w'
theorem szIntS_c (a : Option Addr) (n c : Nat) (left : Int) (w : World) (h0 : 0 ≤ left) (h1 : left ≤ 1048576) (hn : n ≤ 9223372036854775807) :
    Calls Try.prog 65 #[.slice a n c, .int .i64 left] w (SzPost left ((n : Int) ≤ left) w) := by
  by_cases h : (n : Int) ≤ left
  · have HP := hid h
    go_enter Try.func65, Try.ntmps65
    go_wp2_with fail
    go_ret
    exact ⟨left - n, rfl, by omega, by omega, fun _ => HP.out, Below.refl _ _⟩
  · go_enter Try.func65, Try.ntmps65
    go_wp2_with fail
    go_ret
    exact ⟨-1, rfl, by omega, by omega, fun h => by omega, Below.refl _ _⟩
theorem cells_int : Try.prog.cellsOf 3 = 1 := by kernel_rfl
theorem info_ints : (Try.prog.info? 26).map (fun i => (i.zero, i.size, i.bytes)) = some (some (.slice none 0 0), 1, 24) := by kernel_rfl
theorem sl_step (us Z : List Value) (u : Value) (k : Nat) (h : us.length = k) (hz : k < Z.length) : (us ++ Z.drop k).set k u = (us ++ [u]) ++ Z.drop (k + 1) := by
  have e : Z.drop k = Z[k] :: Z.drop (k + 1) := List.drop_eq_getElem_cons hz
  rw [List.set_append_right _ _ (by omega), h, Nat.sub_self, e, List.set_cons_zero, List.append_assoc]
  rfl
theorem getD_snoc {us : List Value} {u : Value} {i k : Nat} (h : us.length = k) : (us ++ [u]).getD i vz = if i < k then us.getD i vz else if i = k then u else vz := by
  subst h
  rw [List.getD_eq_getElem?_getD, List.getElem?_append]
  by_cases h1 : i < us.length
  · rw [if_pos h1, if_pos h1, List.getD_eq_getElem?_getD]
  · rw [if_neg h1, if_neg h1]
    by_cases h2 : i = us.length
    · subst h2; simp
    · rw [if_neg h2, List.getElem?_eq_none (by simp; omega)]
      rfl
theorem take_getD {g : List (List Int)} {k i : Nat} (h : i < k) : (g.take k).getD i [] = g.getD i [] := by
  rw [List.getD_eq_getElem?_getD, List.getElem?_take_of_lt h, List.getD_eq_getElem?_getD]
/-- How the copy stands after k lists. -/
structure CpRel (w : World) (g : List (List Int)) (Z : List Value) (k : Nat) (us : List Value) (wr : World) : Prop where
  len : us.length = k
  row : wr.ownsRow w.heap.size 26 1 (.slice (some ⟨w.heap.size, 0, none⟩) g.length g.length) g.length (us ++ Z.drop k)
  lists : ∀ j, j < k → wr.ownsRow (w.heap.size + 1) 3 1 (us.getD j vz) (g.getD j []).length (ints (g.getD j []))
  apart : ∀ i j, i < j → j < k → ∀ b, (us.getD i vz).ownBlock = some b → (us.getD j vz).ownBlock ≠ some b
  bel : Below w.heap.size w wr
theorem cells_ints : Try.prog.cellsOf 26 = 1 := by kernel_rfl
set_option maxHeartbeats 2000000 in
theorem toIntSS_c (g : List (List Int)) (v : Value) (w : World) (h : GRd w v g) (hl : g.length ≤ 1048576) (hs : ∀ j, j < g.length → (g.getD j []).length ≤ 1048576) :
    Calls Try.prog 38 #[v] w fun e w' => ∃ v' us, e = .returned v' ∧ GOwn w.heap.size w' v' g us ∧ Below w.heap.size w w' := by
  obtain ⟨a, cap, rfl, ha⟩ := h
  have HA := hid ha
  have HS := hid hs
  clear ha hs
  obtain ⟨i0, hi, hz0, hz1, hz2⟩ := info_parts info_ints
  have H0 := hid hz0
  have H1 := hid hz1
  have H2 := hid hz2
  have HI := hid hi
  clear hz0 hz1 hz2 hi
  go_enter Try.func38, Try.ntmps38
  go_wp2_with (refine wpList_make_full _ rfl _ _ 23 rfl w.heap.size 26 i0 (.slice none 0 0) 1 Try.underlying23 HI.out H0.out H1.out .i64 .i64 _ _ g.length rfl rfl rfl rfl (by rw [H2.out]; omega) (by simp only [maxLen]; omega) (Nat.le_refl _) ?_; intro w1 hown1 hg1)
  obtain ⟨Z, hZ⟩ : ∃ Z, (madeCells (Value.cells (.slice none 0 0)) (g.length * 1)).toList = Z := ⟨_, rfl⟩
  rw [hZ] at hown1
  have hZl : Z.length = g.length := by have := hown1.1; omega
  have HZ := hid hZl
  have HO := hid hown1
  have HB1 := hid ((Below.refl w.heap.size w).grown hg1 (Nat.le_refl _) (by simp))
  clear hown1 hg1 hZ hZl
  go_loopw [4] (fun c wr => ∃ (k : Nat) (us : List Value), c = .int .i64 k ∧ k ≤ g.length ∧ CpRel w g Z k us wr) (fun c _ => g.length - (intOf c).toNat)
  case atStart => exact ⟨0, [], rfl, by omega, ⟨rfl, by simpa using HO.out, fun j hj => by omega, fun i j _ hj => by omega, HB1.out⟩⟩
  case round =>
    obtain ⟨k, us, rfl, hk, hrel⟩ := hrel
    have HR := hid hrel
    have hbel := hrel.bel
    have hz := hbel.size
    by_cases hlt : k < g.length
    · rcases HA.out with h | ⟨b, o, rfl, hg, hc⟩
      · subst h; simp at hlt
      obtain ⟨u, hu, hru⟩ := hc k hlt
      have q1 : wr.cell? ⟨b, o + k, none⟩ = some u := (hbel.cell (p := ⟨b, o + k, none⟩) hg).trans hu
      have HRu := hid (hru.on hbel)
      have hsk := HS.out k hlt
      obtain ⟨l, hl9⟩ : ∃ l, g.getD k [] = l := ⟨_, rfl⟩
      rw [hl9] at HRu hsk
      have HL := hid hl9
      have HSk := hid hsk
      clear hc hu hru hbel hrel hl9 hsk
      go_wp2_with fail
      refine (toIntS_c _ u wr HRu.out HSk.out).mono ?_
      rintro e w2 ⟨v2, rfl, hown2, hb2⟩
      have HO2 := hid hown2
      have HB2 := hid (HR.out.bel.trans (hb2.mono hz))
      have hrow := own_on HR.out.row hb2
      have hsome : ∃ x, (us ++ Z.drop k)[k]? = some x := by
        have hlen : k < (us ++ Z.drop k).length := by have := HZ.out; have := HR.out.len; simp; omega
        exact ⟨_, List.getElem?_eq_getElem hlen⟩
      have hcell := hrow.cellAt k (by omega)
      obtain ⟨x, hx⟩ := hsome
      rw [hx] at hcell
      have hfz := hrow.frozenAt k
      have hst := hrow.stored k v2
      rw [sl_step us Z v2 k HR.out.len (by rw [HZ.out]; exact hlt)] at hst
      have HSt := hid hst
      have HB3 := hid (HB2.out.setCell (p := ⟨w.heap.size, k, none⟩) (Nat.le_refl _) v2)
      have hz2 := hb2.size
      have HLs := hid (fun j (hj : j < k) => own_below (own_on (HR.out.lists j hj) hb2) (fun g' hg' => ((own_on (HR.out.lists j hj) hb2).lt g' hg').2) (.refl _ w2))
      have HBw := hid hb2
      obtain ⟨s2, c2, rfl⟩ := own_slice hown2
      have hne : w.heap.size < wr.heap.size := HR.out.row.lt w.heap.size rfl |>.2
      clear hst hrow hx hown2 hb2
      go_wp2_with fail
      go_roundw
      case rel =>
        have hon : ∀ {v : Value} {n : Nat} {xs : List Value} {B : Nat}, w.heap.size < B → w2.ownsRow B 3 1 v n xs → (w2.setCell ⟨w.heap.size, k, none⟩ (.slice s2 l.length c2)).ownsRow B 3 1 v n xs := by
          intro v n xs B hB h
          exact own_only (p := fun j => j = w.heap.size) h (fun g' hg' => by have := (h.lt g' hg').1; omega) ((Only.refl (fun j => j = w.heap.size) w2).setCell (g := w.heap.size) rfl k _)
        refine ⟨k + 1, us ++ [.slice s2 l.length c2], by go_num, by omega, ⟨by simp [HR.out.len], HSt.out.1, fun j hj => ?_, fun i j hij hj b' hb' => ?_, HB3.out⟩⟩
        · rw [getD_snoc HR.out.len]
          by_cases hjk : j < k
          · rw [if_pos hjk]
            exact hon (by omega) (HLs.out j hjk)
          · obtain rfl : j = k := by omega
            rw [if_neg hjk, if_pos rfl]
            rw [HL.out]
            exact own_mono (hon hne HO2.out) (by omega)
        · rw [getD_snoc HR.out.len] at hb' ⊢
          rw [if_pos (show i < k by omega)] at hb'
          by_cases hjk : j < k
          · rw [if_pos hjk]
            exact HR.out.apart i j hij hjk b' hb'
          · obtain rfl : j = k := by omega
            rw [if_neg hjk, if_pos rfl]
            intro he
            have h1 := (HO2.out.lt b' he).1
            have h2 := ((HR.out.lists i (by omega)).lt b' hb').2
            omega
      case measure => simp [intOf]; omega
    · obtain rfl : k = g.length := by omega
      clear hrel hbel
      go_wp2_with fail
      go_ret
      have hrow := HR.out.row
      rw [List.drop_of_length_le (by rw [HZ.out]; exact Nat.le_refl _), List.append_nil] at hrow
      refine ⟨_, us, rfl, ⟨HR.out.len, by rw [HR.out.len]; exact hrow, fun j hj => own_mono (HR.out.lists j hj) (by omega), HR.out.apart⟩, HR.out.bel⟩
theorem szIntSS_c (g : List (List Int)) (v : Value) (w : World) (h : GRd w v g) (hl : g.length ≤ 9223372036854775807) (hs : ∀ j, j < g.length → (g.getD j []).length ≤ 9223372036854775807) :
    Calls Try.prog 37 #[v, .int .i64 1048576] w (SzPost 1048576 (g.length ≤ 1048576 ∧ ∀ j, j < g.length → (g.getD j []).length ≤ 1048576) w) := by
  obtain ⟨a, cap, rfl, ha⟩ := h
  have HA := hid ha
  have HS := hid hs
  clear ha hs
  by_cases hn : g.length ≤ 1048576
  case neg =>
    go_enter Try.func37, Try.ntmps37
    go_wp2_with fail
    go_ret
    exact ⟨-1, rfl, by omega, by omega, fun h => by omega, Below.refl _ _⟩
  go_enter Try.func37, Try.ntmps37
  go_wp2_with fail
  go_loopw [1, 5] (fun l c wr => ∃ (k : Nat) (y : Int), c = .int .i64 k ∧ l = .int .i64 y ∧ k ≤ g.length ∧ 0 ≤ y ∧ y ≤ 1048576 ∧ (∀ j, j < k → (g.getD j []).length ≤ 1048576) ∧ Below w.heap.size w wr) (fun _ c _ => g.length - (intOf c).toNat)
  case atStart => exact ⟨0, _, rfl, rfl, by omega, by omega, by omega, fun j hj => by omega, Below.refl _ _⟩
  case round =>
    obtain ⟨k, y, rfl, rfl, hk, hy0, hy1, hall, hbel⟩ := hrel
    have HAll := hid hall
    have HBe := hid hbel
    have hz := hbel.size
    clear hall
    by_cases hlt : k < g.length
    · rcases HA.out with h | ⟨b, o, rfl, hg, hc⟩
      · subst h; simp at hlt
      obtain ⟨u, hu, hru⟩ := hc k hlt
      have q1 : wr.cell? ⟨b, o + k, none⟩ = some u := (hbel.cell (p := ⟨b, o + k, none⟩) hg).trans hu
      obtain ⟨su, cu, rfl⟩ := Rd.slice hru
      have hlk := HS.out k hlt
      obtain ⟨n, hnn⟩ : ∃ n, (g.getD k []).length = n := ⟨_, rfl⟩
      have HN := hid hnn
      rw [hnn] at q1 hlk
      clear hc hu hru hbel hnn
      go_wp2_with fail
      refine (szIntS_c su n cu y wr hy0 hy1 (by omega)).mono ?_
      rintro e w2 ⟨y2, rfl, h1, h2, h3, hb2⟩
      have H3 := hid h3
      have HB2 := hid (HBe.out.trans (hb2.mono hz))
      clear h3 hb2
      by_cases hy2 : 0 ≤ y2
      · go_wp2_with fail
        go_roundw
        case rel =>
          refine ⟨k + 1, y2, by go_num, rfl, by omega, hy2, by omega, fun j hj => ?_, HB2.out⟩
          by_cases hjk : j < k
          · exact HAll.out j hjk
          · obtain rfl : j = k := by omega
            have := H3.out hy2
            rw [HN.out]
            omega
        case measure => simp [intOf]; omega
      · go_wp2_with fail
        go_ret
        exact ⟨-1, rfl, by omega, by omega, fun h => by omega, HB2.out⟩
    · obtain rfl : k = g.length := by omega
      clear hbel
      go_wp2_with fail
      go_ret
      exact ⟨y, rfl, by omega, by omega, fun _ => ⟨hn, HAll.out⟩, HBe.out⟩
set_option maxHeartbeats 2000000 in
theorem eqIntSS_c (g : List (List Int)) (va vb : Value) (w : World) (ha : GRd w va g) (hb : GRd w vb g) (hl : g.length ≤ 1048576) (hs : ∀ j, j < g.length → (g.getD j []).length ≤ 1048576) :
    Calls Try.prog 39 #[va, vb] w fun e w' => e = .returned (.bool true) ∧ Below w.heap.size w w' := by
  obtain ⟨a, ca, rfl, ha⟩ := ha
  obtain ⟨b, cb, rfl, hb⟩ := hb
  have HA := hid ha
  have HB := hid hb
  have HS := hid hs
  clear ha hb hs
  go_enter Try.func39, Try.ntmps39
  go_wp2_with fail
  go_loopw [5] (fun c wr => ∃ k : Nat, c = .int .i64 k ∧ k ≤ g.length ∧ Below w.heap.size w wr) (fun c _ => g.length - (intOf c).toNat)
  case atStart => exact ⟨0, rfl, by omega, Below.refl _ _⟩
  case round =>
    obtain ⟨k, rfl, hk, hbel⟩ := hrel
    have HBe := hid hbel
    have hz := hbel.size
    clear hbel
    by_cases hlt : k < g.length
    · rcases HA.out with h | ⟨b1, o1, rfl, hg, hc⟩
      · subst h; simp at hlt
      rcases HB.out with h | ⟨b2, o2, rfl, hg2, hc2⟩
      · subst h; simp at hlt
      obtain ⟨u, hu, hru⟩ := hc k hlt
      obtain ⟨u2, hu2, hru2⟩ := hc2 k hlt
      have q1 : wr.cell? ⟨b1, o1 + k, none⟩ = some u := (HBe.out.cell (p := ⟨b1, o1 + k, none⟩) hg).trans hu
      have r1 : wr.cell? ⟨b2, o2 + k, none⟩ = some u2 := (HBe.out.cell (p := ⟨b2, o2 + k, none⟩) hg2).trans hu2
      have HR1 := hid (hru.on HBe.out)
      have HR2 := hid (hru2.on HBe.out)
      have HSk := hid (HS.out k hlt)
      have hk1 : (k : Int) < g.length := by omega
      have hk0 : 0 ≤ (k : Int) := by omega
      clear hc hc2 hu hu2 hru hru2
      go_wp2_with fail
      go_region_with (go_at_call 40; refine (eqIntS_b (g.getD k []) _ _ _ (HR1.out.on ((Below.refl _ _).drew)) (HR2.out.on ((Below.refl _ _).drew)) (by have := HSk.out; omega)).mono ?_; rintro e w1 ⟨rfl, hb1⟩)
      all_goals
        have HB1 := hid (HBe.out.drew.trans (hb1.mono hz))
        clear hb1 q1 r1
        go_wp2_with fail
        go_roundw
        case rel => exact ⟨k + 1, by go_num, by omega, HB1.out⟩
        case measure => simp [intOf]; omega
    · obtain rfl : k = g.length := by omega
      go_wp2_with fail
      go_ret
      exact ⟨rfl, HBe.out⟩
end Go.Proofs.Ytbbhbjdpdhbjlaa.Ge
