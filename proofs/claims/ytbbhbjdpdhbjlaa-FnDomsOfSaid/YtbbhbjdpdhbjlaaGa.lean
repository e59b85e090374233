/- The source of drawn numbers, and drawn graphs. -/
import Derived.Test.YtbbhbjdpdhbjlaaGh
import Derived.OpenShut
import Derived.Deep.QuietTactic
set_option linter.unusedSimpArgs false
set_option linter.unusedVariables false
namespace Go.Proofs.Ytbbhbjdpdhbjlaa.Sr
open Go.RowKit Pl

/-- The bytes that came in: none, or a row of cells with numbers in 0..255. -/
structure Bytes (w : World) (a : Option Addr) (len : Nat) (zs : List Int) : Prop where
  small : len ≤ 1048576
  cells : len = 0 ∨ ∃ b o, a = some ⟨b, o, none⟩ ∧ b < w.heap.size ∧ ∀ i, i < len → w.cell? ⟨b, o + i, none⟩ = some (.int .u8 (zs.getD i 0))
  range : ∀ i : Nat, 0 ≤ zs.getD i 0 ∧ zs.getD i 0 ≤ 255
/-- From what the frame tells of a slice of bytes that came in. -/
theorem bytes_of {w : World} {a : Option Addr} {len cap : Nat} {zs : List Int} (hl : len ≤ 1048576)
    (h : (a = none ∧ len = 0 ∧ cap = 0 ∧ zs = []) ∨ ∃ x, a = some x ∧ len ≤ cap ∧ cap ≤ maxLen ∧ zs.length = cap ∧ (∀ i, i < zs.length → w.cell? (x.add i) = some (.int .u8 (zs.getD i 0))) ∧ ∀ n ∈ zs, (Lit.int .u8 n).wf = true) : Bytes w a len zs := by
  rcases h with ⟨_, h0, _, rfl⟩ | ⟨x, rfl, hlc, _, hz, hcell, hwf⟩
  · exact ⟨hl, Or.inl h0, fun i => by simp⟩
  · have hr : ∀ i : Nat, 0 ≤ zs.getD i 0 ∧ zs.getD i 0 ≤ 255 := fun i => by
      have := range_u8 hwf i
      simpa using this
    by_cases h0 : len = 0
    · exact ⟨hl, Or.inl h0, hr⟩
    · obtain ⟨b, off, rfl, hc⟩ := ints_at hcell (by omega)
      refine ⟨hl, Or.inr ⟨b, off, rfl, ?_, fun i hi => hc i (by omega)⟩, hr⟩
      exact World.block_lt_of_cell? _ _ (hc 0 (by omega))
/-- Block sb of the world holds a source that stands at place k of the bytes. -/
structure Src (w : World) (sb : Nat) (a : Option Addr) (len cap : Nat) (zs : List Int) (k : Int) : Prop where
  code : w.cell? ⟨sb, 0, none⟩ = some (.slice a len cap)
  at_ : w.cell? ⟨sb, 1, none⟩ = some (.int .i64 k)
  free : w.frozen? ⟨sb, 1, none⟩ = false
  lo : 0 ≤ k
  bytes : Bytes w a len zs
  apart : ∀ b o, a = some ⟨b, o, none⟩ → 0 < len → b < sb
  here : sb < w.heap.size
/-- The world w' is w but for new blocks and what stands in block sb. -/
structure Moved (sb : Nat) (w w' : World) : Prop where
  os : w'.os = w.os
  tape : w'.tape = w.tape
  output : w'.output = w.output
  size : w.heap.size ≤ w'.heap.size
  block : ∀ k, k < w.heap.size → k ≠ sb → w'.heap[k]? = w.heap[k]?
theorem Moved.refl (sb : Nat) (w : World) : Moved sb w w := ⟨rfl, rfl, rfl, Nat.le_refl _, fun _ _ _ => rfl⟩
theorem Moved.trans {sb : Nat} {a b c : World} (h : Moved sb a b) (k : Moved sb b c) : Moved sb a c :=
  ⟨k.os.trans h.os, k.tape.trans h.tape, k.output.trans h.output, Nat.le_trans h.size k.size, fun i hi hn => (k.block i (Nat.lt_of_lt_of_le hi h.size) hn).trans (h.block i hi hn)⟩
theorem Moved.drew {sb : Nat} {a w : World} (h : Moved sb a w) : Moved sb a w.drew := ⟨h.os, h.tape, h.output, h.size, h.block⟩
theorem Moved.drewN {sb : Nat} {a w : World} (h : Moved sb a w) (n : Nat) : Moved sb a (w.drewN n) := ⟨h.os, h.tape, h.output, h.size, h.block⟩
theorem Moved.setCell {sb : Nat} {a w : World} (h : Moved sb a w) (o : Nat) (u : Value) : Moved sb a (w.setCell ⟨sb, o, none⟩ u) :=
  h.trans ⟨rfl, rfl, rfl, by simp [World.setCell], fun k _ hn => Below.heap_setCell _ _ _ _ hn⟩
theorem Moved.alloc {sb : Nat} {a w : World} (h : Moved sb a w) (o : Obj) : Moved sb a (w.alloc o) :=
  h.trans ⟨rfl, rfl, rfl, by simp, fun k hk _ => Below.heap_alloc _ _ _ hk⟩
theorem Moved.cell {sb : Nat} {w w' : World} (h : Moved sb w w') {b o : Nat} (hb : b < w.heap.size) (hn : b ≠ sb) : w'.cell? ⟨b, o, none⟩ = w.cell? ⟨b, o, none⟩ := World.cell?_of_block (w := w) (h.block b hb hn)
theorem Moved.frozen {sb : Nat} {w w' : World} (h : Moved sb w w') {b o : Nat} (hb : b < w.heap.size) (hn : b ≠ sb) : w'.frozen? ⟨b, o, none⟩ = w.frozen? ⟨b, o, none⟩ := World.frozen?_of_block (w := w) (h.block b hb hn)
theorem Moved.below {B sb : Nat} {W w w' : World} (h : Moved sb w w') (hB : Below B W w) (hs : B ≤ sb) (hz : B ≤ w.heap.size) : Below B W w' :=
  hB.trans ⟨h.os, h.tape, h.output, h.size, fun k hk => h.block k (by omega) (by omega)⟩
theorem Bytes.moved {sb : Nat} {w w' : World} {a : Option Addr} {len : Nat} {zs : List Int} (h : Bytes w a len zs) (m : Moved sb w w') (hap : ∀ b o, a = some ⟨b, o, none⟩ → 0 < len → b < sb) : Bytes w' a len zs := by
  refine ⟨h.small, ?_, h.range⟩
  rcases h.cells with h0 | ⟨b, o, e, hlt, hc⟩
  · exact Or.inl h0
  · refine Or.inr ⟨b, o, e, Nat.lt_of_lt_of_le hlt m.size, fun i hi => ?_⟩
    rw [m.cell hlt (by have := hap b o e (by omega); omega)]; exact hc i hi
/-- A step of the source: a store of the next place, and draws. -/
theorem Src.step2 {sb : Nat} {a : Option Addr} {len cap : Nat} {zs : List Int} {k : Int} {w : World} (h : Src w sb a len cap zs k) (n m : Nat) :
    Src (((w.setCell ⟨sb, 1, none⟩ (.int .i64 (k + 1))).drewN n).drewN m) sb a len cap zs (k + 1) ∧ Moved sb w (((w.setCell ⟨sb, 1, none⟩ (.int .i64 (k + 1))).drewN n).drewN m) := by
  have m : Moved sb w (((w.setCell ⟨sb, 1, none⟩ (.int .i64 (k + 1))).drewN n).drewN m) := (((Moved.refl sb w).setCell 1 _).drewN n).drewN m
  refine ⟨⟨?_, ?_, ?_, by have := h.lo; omega, h.bytes.moved m h.apart, h.apart, Nat.lt_of_lt_of_le h.here m.size⟩, m⟩
  · have := h.code; simp [go_sem, this]
  · have := h.at_; simp [go_sem, this]
  · have := h.free; simp [go_sem, this]
/-- A method of the source has returned a number that is P, having taken d bytes at most. -/
def Got (sb : Nat) (a : Option Addr) (len cap : Nat) (zs : List Int) (k d : Int) (P : Int → Prop) (w : World) (e : Ending) (w' : World) : Prop :=
  ∃ v k' : Int, e = .returned (.int .i64 v) ∧ P v ∧ k ≤ k' ∧ k' ≤ k + d ∧ Src w' sb a len cap zs k' ∧ Moved sb w w'
theorem next_c (sb : Nat) (a : Option Addr) (len cap : Nat) (zs : List Int) (k : Int) (w : World) (h : Src w sb a len cap zs k) (hk : k ≤ 999999999) :
    Calls Try.prog 79 #[.pointer (some ⟨sb, 0, none⟩)] w (Got sb a len cap zs k 1 (fun v => 0 ≤ v ∧ v ≤ 255) w) := by
  have H := hid h
  obtain ⟨hc, ha, hf, hlo, hb, hap, hhi⟩ := h
  have hs := hb.small
  by_cases hlt : (len : Int) < k + 1
  · have HB := hid hb
    clear hb hap
    go_enter Try.func79, Try.ntmps79
    go_wp2
    go_quiet (fail)
    go_wp2
    go_quiet (fail)
    go_wp2
    go_ret
    exact ⟨_, _, rfl, ⟨by omega, by omega⟩, by omega, by omega, (H.out.step2 _ _).1, (H.out.step2 _ _).2⟩
  · obtain ⟨j, rfl⟩ := Int.eq_ofNat_of_zero_le hlo
    have hj : j < len := by omega
    have hr := hb.range j
    obtain ⟨hr1, hr2⟩ := hr
    rcases hb.cells with h0 | ⟨b, o, rfl, hbl, hcell⟩
    · omega
    have hcj := hcell j hj
    have hne : b < sb := hap b o rfl (by omega)
    clear hcell hb hap
    go_enter Try.func79, Try.ntmps79
    go_wp2
    go_quiet (fail)
    go_wp2
    go_quiet (fail)
    go_wp2
    go_ret
    have hw : wrap64 (zs[j]?.getD 0) = zs.getD j 0 := by rw [IntWalk.wrap64_in _ (by simp at hr1 hr2; omega)]; simp
    exact ⟨_, _, int_eq hw, ⟨hr1, hr2⟩, by omega, by omega, (H.out.step2 _ _).1, (H.out.step2 _ _).2⟩
theorem pick_c (n : Int) (sb : Nat) (a : Option Addr) (len cap : Nat) (zs : List Int) (k : Int) (w : World) (h : Src w sb a len cap zs k) (hk : k ≤ 999999990) (hn : n ≤ 1000000) :
    Calls Try.prog 56 #[.pointer (some ⟨sb, 0, none⟩), .int .i64 n] w (Got sb a len cap zs k 2 (fun v => 0 ≤ v ∧ (v < n ∨ v = 0)) w) := by
  by_cases h1 : n < 1
  · have H := hid h
    clear h
    go_enter Try.func56, Try.ntmps56
    go_wp2
    go_ret
    exact ⟨0, k, rfl, ⟨by omega, by omega⟩, by omega, by omega, H.out, Moved.refl _ _⟩
  · by_cases h2 : 256 < n
    · have H := hid h
      clear h
      go_enter Try.func56, Try.ntmps56
      go_wp2_with fail
      refine (next_c sb a len cap zs k w H.out (by omega)).mono ?_
      rintro e w1 ⟨v1, k1, rfl, ⟨hv1, hv2⟩, hk1, hk2, s1, m1⟩
      have S1 := hid s1
      clear s1
      go_wp2_with fail
      refine (next_c sb a len cap zs k1 w1 S1.out (by omega)).mono ?_
      rintro e w2 ⟨v2, k2, rfl, ⟨hv3, hv4⟩, hk3, hk4, s2, m2⟩
      have S2 := hid s2
      clear s2
      go_wp2_with fail
      go_ret
      have g0 := Int.emod_nonneg (v1 * 256 + v2) (show n ≠ 0 by omega)
      have g1 := Int.emod_lt_of_pos (v1 * 256 + v2) (show 0 < n by omega)
      exact ⟨_, k2, rfl, ⟨by omega, by omega⟩, by omega, by omega, S2.out, m1.trans m2⟩
    · have H := hid h
      clear h
      go_enter Try.func56, Try.ntmps56
      go_wp2_with fail
      refine (next_c sb a len cap zs k w H.out (by omega)).mono ?_
      rintro e w1 ⟨v1, k1, rfl, ⟨hv1, hv2⟩, hk1, hk2, s1, m1⟩
      have S1 := hid s1
      clear s1
      go_wp2_with fail
      go_ret
      have g0 := Int.emod_nonneg v1 (show n ≠ 0 by omega)
      have g1 := Int.emod_lt_of_pos v1 (show 0 < n by omega)
      exact ⟨_, k1, rfl, ⟨by omega, by omega⟩, by omega, by omega, S1.out, m1⟩
theorem Bytes.alloc {w : World} {a : Option Addr} {len : Nat} {zs : List Int} (h : Bytes w a len zs) (o : Obj) : Bytes (w.alloc o) a len zs := by
  refine ⟨h.small, ?_, h.range⟩
  rcases h.cells with h0 | ⟨b, off, e, hlt, hc⟩
  · exact Or.inl h0
  · refine Or.inr ⟨b, off, e, by simp; omega, fun i hi => ?_⟩
    have := hc i hi
    rw [World.cell?_of_block (w := w) (Below.heap_alloc w o b hlt)]; exact this
theorem Src.alloc {sb : Nat} {a : Option Addr} {len cap : Nat} {zs : List Int} {k : Int} {w : World} (h : Src w sb a len cap zs k) (o : Obj) : Src (w.alloc o) sb a len cap zs k := by
  refine ⟨?_, ?_, ?_, h.lo, h.bytes.alloc o, h.apart, by have := h.here; simp; omega⟩
  · rw [World.cell?_of_block (w := w) (Below.heap_alloc w o sb h.here)]; exact h.code
  · rw [World.cell?_of_block (w := w) (Below.heap_alloc w o sb h.here)]; exact h.at_
  · rw [World.frozen?_of_block (w := w) (Below.heap_alloc w o sb h.here)]; exact h.free
theorem from_c (a : Option Addr) (len cap : Nat) (zs : List Int) (w : World) (hB : Bytes w a len zs) :
    Calls Try.prog 45 #[.slice a len cap] w fun e w' => ∃ sb, e = .returned (.pointer (some ⟨sb, 0, none⟩)) ∧ w.heap.size ≤ sb ∧ Src w' sb a len cap zs 0 ∧ Below w.heap.size w w' := by
  have H2 : Hid (∀ b o, a = some ⟨b, o, none⟩ → 0 < len → b < w.heap.size) := by
    intro b o e hl
    rcases hB.cells with h0 | ⟨b', o', e', hlt, _⟩
    · omega
    · rw [e] at e'
      cases e'
      exact hlt
  have H := hid hB
  clear hB
  go_enter Try.func45, Try.ntmps45
  go_wp2
  go_ret
  refine ⟨_, rfl, Nat.le_refl _, ⟨?_, ?_, ?_, by omega, H.out.alloc _, H2.out, by simp⟩, (Below.refl _ _).alloc (Nat.le_refl _) _⟩
  · simp [go_sem]
  · simp [go_sem]
  · simp [go_sem]
end Go.Proofs.Ytbbhbjdpdhbjlaa.Sr
namespace Go.Proofs.Ytbbhbjdpdhbjlaa.Ge
open Go.RowKit Pl Ft Mm In Gp Sr

theorem own_moved {sb : Nat} {w w' : World} {base : Nat} {e : TypeId} {size : Nat} {v : Value} {n : Nat} {xs : List Value} (h : w.ownsRow base e size v n xs) (hs : sb < base) (m : Moved sb w w') : w'.ownsRow base e size v n xs := by
  refine ⟨h.1, ?_⟩
  rcases h.2 with h0 | ⟨g, cap, cur, rfl, hg, hr, hrest⟩
  · exact .inl h0
  · exact .inr ⟨g, cap, cur, rfl, hg, (m.block g (Array.getElem?_eq_some_iff.1 hr).1 (by omega)).trans hr, hrest⟩
theorem src_below {B sb : Nat} {a : Option Addr} {len cap : Nat} {zs : List Int} {k : Int} {w w' : World} (h : Src w sb a len cap zs k) (hb : Below B w w') (hB : sb < B) : Src w' sb a len cap zs k := by
  have hblk := hb.block sb hB
  refine ⟨?_, ?_, ?_, h.lo, ?_, h.apart, Nat.lt_of_lt_of_le h.here hb.size⟩
  · exact (hb.cell (p := ⟨sb, 0, none⟩) hB).trans h.code
  · exact (hb.cell (p := ⟨sb, 1, none⟩) hB).trans h.at_
  · have := h.free
    unfold World.frozen? at this ⊢
    rw [hblk]
    exact this
  · refine ⟨h.bytes.small, ?_, h.bytes.range⟩
    rcases h.bytes.cells with h0 | ⟨b, o, e, hlt, hc⟩
    · exact .inl h0
    · by_cases hl : 0 < len
      · have hap := h.apart b o e hl
        refine .inr ⟨b, o, e, Nat.lt_of_lt_of_le hlt hb.size, fun i hi => ?_⟩
        rw [hb.cell (p := ⟨b, o + i, none⟩) (Nat.lt_trans hap hB)]
        exact hc i hi
      · exact .inl (by omega)
/-- Rows of a graph that is being drawn: the row of its lists, and each list, from lo on. -/
structure GRows (lo : Nat) (w : World) (v : Value) (g : List (List Int)) (us : List Value) : Prop where
  len : us.length = g.length
  row : w.ownsRow lo 26 1 v us.length us
  lists : ∀ j, j < g.length → w.ownsRow lo 3 1 (us.getD j vz) (g.getD j []).length (ints (g.getD j []))
theorem GRows.at_ {lo : Nat} {w : World} {v : Value} {g : List (List Int)} {us : List Value} (h : GRows lo w v g us) : GAt w.heap.size w v g := by
  refine ⟨?_, Nat.le_refl _⟩
  obtain ⟨a, cap, rfl⟩ := own_slice h.row
  rw [h.len]
  refine ⟨a, cap, rfl, ?_⟩
  by_cases h0 : g = []
  · exact .inl h0
  · have hp : 0 < us.length := by rw [h.len]; exact List.length_pos_iff.2 h0
    obtain ⟨b, cap', hv, _, hg⟩ := own_addr h.row hp
    have ha : a = some ⟨b, 0, none⟩ := by simp at hv; exact hv.1
    subst ha
    refine .inr ⟨b, 0, rfl, hg, fun j hj => ⟨us.getD j vz, ?_, Rd.of_own (h.lists j hj), fun k hk => ((h.lists j hj).lt k hk).2⟩⟩
    have hju : j < us.length := by rw [h.len]; exact hj
    have := h.row.cells (g := b) rfl j (us.getD j vz) (by simp [hju])
    have e : (⟨b, 0, none⟩ : Addr).add j = ⟨b, j, none⟩ := by unfold Addr.add; split <;> simp_all
    rw [e] at this
    rw [Nat.zero_add]
    exact this
theorem GRows.moved {lo sb : Nat} {w w' : World} {v : Value} {g : List (List Int)} {us : List Value} (h : GRows lo w v g us) (hs : sb < lo) (m : Moved sb w w') : GRows lo w' v g us :=
  ⟨h.len, own_moved h.row hs m, fun j hj => own_moved (h.lists j hj) hs m⟩
theorem GRows.on {lo : Nat} {w w' : World} {v : Value} {g : List (List Int)} {us : List Value} (h : GRows lo w v g us) (hb : Below w.heap.size w w') : GRows lo w' v g us :=
  ⟨h.len, own_on h.row hb, fun j hj => own_on (h.lists j hj) hb⟩
theorem GRows.below {lo B : Nat} {w0 w w' : World} {v : Value} {g : List (List Int)} {us : List Value} (h : GRows lo w v g us) (hw : ∀ k, v.ownBlock = some k → k < B) (hl : ∀ j, j < g.length → ∀ k, (us.getD j vz).ownBlock = some k → k < B) (hb : Below B w w') : GRows lo w' v g us :=
  ⟨h.len, own_below h.row hw hb, fun j hj => own_below (h.lists j hj) (hl j hj) hb⟩
/-- A row of slices with one more behind it. -/
theorem app_slices {ops : Array Oper} {rest : List Oper} {o : Oper} {a : Act} {Q : Exit → Act → World → Prop} (w : World) (hgd : o.guard = none) (s x : Operand)
    (ho : o.op = .call { callee := .builtin .append, args := #[s, x], argTypes := #[23, 23] })
    (B : Nat) (us : List Value) (u : Value) (v : Value) (hs : a.eval s = v) (hown : w.ownsRow B 26 1 v us.length us) (hu : u.oneCell' = true)
    (A : Option Addr) (m c : Nat) (hx : a.eval x = .slice A m c) (hm : m = 1) (hsrc : SrcAt w A 1 1 [u])
    (hl : us.length ≤ 1000000) (hB : B ≤ w.heap.size)
    (h : ∀ v' w', w'.ownsRow B 26 1 v' (us ++ [u]).length (us ++ [u]) → Only (fun g => v.ownBlock = some g) w w' → wpList Try.prog ops Q rest (a.put o.dst v') w') : wpList Try.prog ops Q (o :: rest) a w := by
  obtain ⟨i0, hi, hz0, hz1, hz2⟩ := info_parts info_ints
  subst hm
  refine wpList_app w hgd s x 23 ho B 26 i0 (.slice none 0 0) 1 24 Try.underlying23 hi hz0 hz1 hz2 rfl (by decide) v us.length us hs hown A 1 c [u] hx hsrc ?_ (by simp only [maxLen]; omega) (by omega) hB
    (fun v' w' h1 h2 h3 => h v' w' ?_ ⟨h2.os, h2.tape, h2.output, h2.size, fun k hk hne => h2.block k hk (fun e => hne e.symm)⟩)
  · intro y hy
    simp only [List.mem_cons, List.not_mem_nil, or_false] at hy
    subst hy
    exact hu
  · rw [List.length_append]
    exact h1
theorem SrcAt.sl (w : World) (u : Value) (H : Nat) (hH : w.heap.size = H) : SrcAt (w.alloc (.cells #[u] 26)) (some ⟨H, 0, none⟩) 1 1 [u] := by
  subst hH
  exact ⟨rfl, .inr ⟨_, rfl, new_cells w #[u] _ _ rfl⟩⟩
theorem rare_c (sb : Nat) (a : Option Addr) (len cap : Nat) (zs : List Int) (k : Int) (w : World) (h : Src w sb a len cap zs k) (hk : k ≤ 999999980) :
    Calls Try.prog 68 #[.pointer (some ⟨sb, 0, none⟩)] w fun e w' => ∃ (b : Bool) (k' : Int), e = .returned (.bool b) ∧ k ≤ k' ∧ k' ≤ k + 2 ∧ Src w' sb a len cap zs k' ∧ Moved sb w w' := by
  have H := hid h
  clear h
  go_enter Try.func68, Try.ntmps68
  go_wp2_with fail
  refine (pick_c 24 sb a len cap zs k w H.out (by omega) (by omega)).mono ?_
  rintro e w1 ⟨v, k', rfl, hv, h1, h2, hS, hM⟩
  have HS := hid hS
  have HM := hid hM
  clear hS hM
  go_wp2_with fail
  go_ret
  exact ⟨_, k', rfl, h1, h2, HS.out, HM.out⟩
end Go.Proofs.Ytbbhbjdpdhbjlaa.Ge
