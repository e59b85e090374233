/- A map from places to the instructions that stand there, kept whole; slices.Clone of numbers. -/
import Derived.Test.YtihhpgklpichgaaGreatSw2
import Derived.Test.YtihhpgklpichgaaGreatRun
import Derived.Maps.Own
import Derived.Test.YtihhpgklpichgaaGreatApp
import Derived.RegionTactic
import Derived.BigRegion
import Derived.WalkSpells
set_option linter.unusedSimpArgs false
set_option linter.unusedVariables false
namespace Go.Proofs.YtihhpgklpichgaaGreat.Wk
open Go.RowKit Go.MapKept Pl Ft Mm In C2 Im Sw

def rdOf (code : List Int) (p : Nat) : Array Value := rdArr ((readP code p).getD insZero) (nextP code p)
def entOf (code : List Int) (p j : Nat) : MapEntry := { key := .int .i64 p, val := .agg (rdOf code p), born := j }
def ents (code : List Int) (ms : List Nat) : Array MapEntry := ((List.range ms.length).map fun j => entOf code (ms.getD j 0) j).toArray
theorem ents_push (code : List Int) (ms : List Nat) (p : Nat) : ents code (ms ++ [p]) = (ents code ms).push (entOf code p ms.length) := by
  apply Array.toList_inj.1
  unfold ents
  rw [Array.toList_push]
  simp only [List.length_append, List.length_singleton, List.range_succ, List.map_append, List.map_singleton]
  congr 1
  · apply List.map_congr_left
    intro j hj
    have hj := List.mem_range.1 hj
    rw [List.getD_eq_getElem?_getD, List.getD_eq_getElem?_getD, List.getElem?_append_left hj]
  · simp
theorem mem_ents {code : List Int} {ms : List Nat} {e : MapEntry} (h : e ∈ (ents code ms).toList) : ∃ p j, p ∈ ms ∧ e = entOf code p j := by
  unfold ents at h
  simp only [List.mem_map, List.mem_range] at h
  obtain ⟨j, hj, rfl⟩ := h
  exact ⟨ms.getD j 0, j, by simp [hj], rfl⟩
theorem ents_mem {code : List Int} {ms : List Nat} {p : Nat} (h : p ∈ ms) : ∃ j, entOf code p j ∈ (ents code ms).toList := by
  obtain ⟨j, hj, rfl⟩ := List.mem_iff_getElem.1 h
  refine ⟨j, ?_⟩
  unfold ents
  simp only [List.mem_map, List.mem_range]
  exact ⟨j, hj, by simp [hj]⟩
theorem findNow_no (p : Int) : ∀ (l : List MapEntry) (i : Nat), (∀ e ∈ l, ∃ q : Int, e.key = .int .i64 q ∧ q ≠ p) → Instr.findNow (.int .i64) (.int .i64 p) l i = some none
  | [], _, _ => rfl
  | e :: l, i, h => by
    obtain ⟨q, hq, hne⟩ := h e List.mem_cons_self
    have hs : Instr.sameNow (.int .i64) (.int .i64 p) e.key = some false := by
      rw [hq]
      simp only [Instr.sameNow, if_true]
      rw [Option.some.injEq, beq_eq_false_iff_ne]
      exact fun h => hne h.symm
    unfold Instr.findNow
    rw [hs]
    exact findNow_no p l (i + 1) (fun e he => h e (List.mem_cons_of_mem _ he))
theorem findNow_yes (p : Int) (v : Value) : ∀ (l : List MapEntry) (i : Nat), (∀ e ∈ l, ∃ q : Int, e.key = .int .i64 q ∧ (q = p → e.val = v)) → (∃ e ∈ l, e.key = .int .i64 p) → ∃ j, Instr.findNow (.int .i64) (.int .i64 p) l i = some (some (j, v))
  | [], _, _, h => by obtain ⟨e, he, _⟩ := h; cases he
  | e :: l, i, h, hex => by
    obtain ⟨q, hq, hv⟩ := h e List.mem_cons_self
    by_cases hqp : q = p
    · have hs : Instr.sameNow (.int .i64) (.int .i64 p) e.key = some true := by
        rw [hq, hqp]
        simp [Instr.sameNow]
      refine ⟨i, ?_⟩
      unfold Instr.findNow
      rw [hs, hv hqp]
    · have hs : Instr.sameNow (.int .i64) (.int .i64 p) e.key = some false := by
        rw [hq]
        simp only [Instr.sameNow, if_true]
        rw [Option.some.injEq, beq_eq_false_iff_ne]
        exact fun h => hqp h.symm
      obtain ⟨e', he', hk'⟩ := hex
      have he2 : e' ∈ l := by
        rcases List.mem_cons.1 he' with h1 | h1
        · subst h1
          rw [hq] at hk'
          simp only [Value.int.injEq, true_and] at hk'
          exact absurd hk' hqp
        · exact h1
      obtain ⟨j, hj⟩ := findNow_yes p v l (i + 1) (fun e he => h e (List.mem_cons_of_mem _ he)) ⟨e', he2, hk'⟩
      refine ⟨j, ?_⟩
      unfold Instr.findNow
      rw [hs]
      exact hj
/-- Block b is the map of these places. -/
def MapAt (w : World) (b : Nat) (code : List Int) (ms : List Nat) : Prop := w.heap[b]? = some (.map (ents code ms) ms.length)
theorem MapAt.lt {w : World} {b : Nat} {code : List Int} {ms : List Nat} (h : MapAt w b code ms) : b < w.heap.size := (Array.getElem?_eq_some_iff.1 h).1
theorem MapAt.only {p : Nat → Prop} {w w' : World} {b : Nat} {code : List Int} {ms : List Nat} (h : MapAt w b code ms) (hp : ¬ p b) (ho : Only p w w') : MapAt w' b code ms := (ho.block b h.lt hp).trans h
theorem MapAt.on {w w' : World} {b : Nat} {code : List Int} {ms : List Nat} (h : MapAt w b code ms) (hb : Below w.heap.size w w') : MapAt w' b code ms := (hb.block b h.lt).trans h
theorem MapAt.alloc {w : World} {b : Nat} {code : List Int} {ms : List Nat} (h : MapAt w b code ms) (o : Obj) : MapAt (w.alloc o) b code ms := h.on ((Below.refl _ _).alloc (Nat.le_refl _) o)
theorem MapAt.set {w : World} {b : Nat} {code : List Int} {ms : List Nat} (h : MapAt w b code ms) {p : Addr} (hp : b ≠ p.block) (u : Value) : MapAt (w.setCell p u) b code ms := (Below.heap_setCell w p u b hp).trans h
theorem mapAt_new (w : World) (code : List Int) : MapAt (w.alloc (.map #[] 0)) w.heap.size code [] := heap_alloc_last w _
theorem check_int (n : Int) (w : World) (em : Bool) : (Instr.checkKey em 10000 3 (.int .i64 n)).run Tryz.prog w = .ok () w := run_checkKey Tryz.underlying3 (by simp [IsKey]) em 9999
theorem zero_rd (w : World) : (zeroValue 112).run Tryz.prog w = .ok (.agg #[.int .i64 0, .int .i64 0, .int .i64 0, .int .i64 0, .int .i64 0]) w := by kernel_rfl
theorem look_yes {w : World} {b : Nat} {code : List Int} {ms : List Nat} {p : Nat} (h : MapAt w b code ms) (hp : p ∈ ms) :
    (Instr.lookup 86 (.map (some b)) (.int .i64 p) true).run Tryz.prog w = .ok (.tuple #[.agg (rdOf code p), .bool true]) w := by
  obtain ⟨j, hj⟩ := findNow_yes (p : Int) (.agg (rdOf code p)) (ents code ms).toList 0 (fun e he => by
    obtain ⟨q, j, _, rfl⟩ := mem_ents he
    refine ⟨q, rfl, fun e => ?_⟩
    obtain rfl : q = p := by omega
    rfl) (by
    obtain ⟨j, hj⟩ := ents_mem (code := code) hp
    exact ⟨_, hj, rfl⟩)
  have hk := check_int p w
  simp [Instr.lookup, run_underlying Tryz.underlying86, run_underlying Tryz.underlying3, Go.MapKept.run_getObj_map h, hk, Instr.findKey, Result.andThen, hj]
theorem look_no {w : World} {b : Nat} {code : List Int} {ms : List Nat} {p : Nat} (h : MapAt w b code ms) (hp : p ∉ ms) :
    (Instr.lookup 86 (.map (some b)) (.int .i64 p) true).run Tryz.prog w = .ok (.tuple #[.agg #[.int .i64 0, .int .i64 0, .int .i64 0, .int .i64 0, .int .i64 0], .bool false]) w := by
  have hj := findNow_no (p : Int) (ents code ms).toList 0 (fun e he => by
    obtain ⟨q, j, hq, rfl⟩ := mem_ents he
    refine ⟨q, rfl, fun e => ?_⟩
    obtain rfl : q = p := by omega
    exact hp hq)
  have hk := check_int p w
  have hz := zero_rd w
  simp [Instr.lookup, run_underlying Tryz.underlying86, run_underlying Tryz.underlying3, Go.MapKept.run_getObj_map h, hk, Instr.findKey, Result.andThen, hj, hz]
def setMap (w : World) (b : Nat) (code : List Int) (ms : List Nat) : World := { w with heap := w.heap.setIfInBounds b (.map (ents code ms) ms.length) }
theorem setMap_at {w : World} {b : Nat} {code : List Int} (hb : b < w.heap.size) (ms' : List Nat) : MapAt (setMap w b code ms') b code ms' := by
  unfold MapAt setMap
  simp [hb]
theorem setMap_only (w : World) (b : Nat) (code : List Int) (ms : List Nat) : Only (fun g => g = b) w (setMap w b code ms) :=
  ⟨rfl, rfl, rfl, by simp [setMap], fun k hk hne => by unfold setMap; simp only; rw [Array.getElem?_setIfInBounds_ne (fun e => hne e.symm)]⟩
theorem run_put {w : World} {b : Nat} {code : List Int} {ms : List Nat} {p : Nat} (h : MapAt w b code ms) (hp : p ∉ ms) :
    (Instr.mapUpdate 86 (.map (some b)) (.int .i64 p) (.agg (rdOf code p))).run Tryz.prog w = .ok () (setMap w b code (ms ++ [p])) := by
  have hj := findNow_no (p : Int) (ents code ms).toList 0 (fun e he => by
    obtain ⟨q, j, hq, rfl⟩ := mem_ents he
    refine ⟨q, rfl, fun e => ?_⟩
    obtain rfl : q = p := by omega
    exact hp hq)
  have hk := check_int p w
  unfold setMap
  rw [ents_push, List.length_append]
  simp [Instr.mapUpdate, run_underlying Tryz.underlying86, run_underlying Tryz.underlying3, Go.MapKept.run_getObj_map h, hk, Instr.findKey, Result.andThen, hj, Go.MapKept.run_setObj_map _ h, entOf]
theorem stp_put {ops : Array Oper} {o : Oper} {a : Act} {K : Act → World → Prop} {Q : Exit → Act → World → Prop} {E : Prop} (w : World) (hgd : o.guard = none) (m x v : Operand) (hop : o.op = .mapUpdate 86 m x v) (hd : o.dst = none)
    {b : Nat} {code : List Int} {ms : List Nat} {p : Nat} (h : MapAt w b code ms) (hp : p ∉ ms) (hm : a.eval m = .map (some b)) (hx : a.eval x = .int .i64 p) (hv : a.eval v = .agg (rdOf code p))
    (hK : ∀ w', MapAt w' b code (ms ++ [p]) → Only (fun g => g = b) w w' → K a w') : if Region.wanted o (yielded ops a.tmps) = true then Oper.wp Tryz.prog o a w K Q else E := by
  have hw : Region.wanted o (yielded ops a.tmps) = true := by simp [Region.wanted, hgd]
  rw [if_pos hw]
  have hrun := run_put h hp
  unfold Oper.wp
  simp [execOp, hop, hm, hx, hv, hrun, Result.andThen]
  show K (a.put o.dst undef) _
  rw [hd]
  exact hK _ (setMap_at h.lt _) (setMap_only _ _ _ _)
/-- A row of one's own without its last element. -/
theorem own_pop {w : World} {base : Nat} {e : TypeId} {g cap : Nat} {n : Nat} {xs : List Value} {x : Value} (h : w.ownsRow base e 1 (.slice (some ⟨g, 0, none⟩) (n + 1) cap) (n + 1) (xs ++ [x])) : w.ownsRow base e 1 (.slice (some ⟨g, 0, none⟩) n cap) n xs := by
  have hl : xs.length = n := by have := h.1; simp at this; omega
  refine ⟨by omega, ?_⟩
  rcases h.2 with ⟨h0, _⟩ | ⟨g', cap', cur, hv, hg, hr, hc, hm, hs, ht⟩
  · cases h0
  · simp only [Value.slice.injEq, Option.some.injEq, Addr.mk.injEq] at hv
    obtain ⟨⟨rfl, _⟩, _, rfl⟩ := hv
    refine .inr ⟨g, cap, cur, rfl, hg, hr, by omega, hm, hs, ?_⟩
    have h2 := congrArg (List.take n) ht
    rw [List.take_take, List.take_append_of_le_length (by omega), List.take_of_length_le (l := xs) (by omega)] at h2
    rw [Nat.mul_one, ← h2]
    congr 1
    omega
end Go.Proofs.YtihhpgklpichgaaGreat.Wk
namespace Go.Proofs.YtihhpgklpichgaaGreat.Wk
open Go.RowKit Pl Ft Mm In C2 Im Sw

def WaysPost (l : List Int) (w : World) (e : Ending) (w' : World) : Prop := ∃ v, e = .returned v ∧ w'.ownsRow w.heap.size 3 1 v l.length (ints l) ∧ Below w.heap.size w w'
theorem one_lit (w : World) (l : List Int) (cs : Array Value) (h : cs.toList = ints l) (hl : l.length ≤ 1000) (n : Nat) (hn : n = l.length) {B : Nat} (hB : B ≤ w.heap.size) : (w.alloc (.cells cs 3)).ownsRow B 3 1 (.slice (some ⟨w.heap.size, 0, none⟩) n n) l.length (ints l) := own_mono (own_lit w l cs h hl n hn) hB
set_option maxRecDepth 100000 in
set_option maxHeartbeats 1000000 in
theorem clone_c (xs : List Int) (B : Nat) (v : Value) (w : World) (h : w.ownsRow B 3 1 v xs.length (ints xs)) (hl : xs.length ≤ 1000000) :
    Calls Tryz.prog 211 #[v] w (WaysPost xs w) := by
  have HO := hid h
  have hq := fun (a : Option Addr) (n c : Nat) (w : World) => Lib.run_eql_slice_nil w 22 3 a n c 0 0 Tryz.underlying22
  rcases h.2 with ⟨rfl, h0⟩ | ⟨g, cap, cur, rfl, _⟩
  · obtain rfl : xs = [] := List.eq_nil_of_length_eq_zero h0
    clear h
    go_enter Tryz.func211, Tryz.ntmps211
    go_wp2_with fail
    go_ret
    exact ⟨_, rfl, World.ownsRow_nil _ _ _ _, Below.refl _ _⟩
  · have HSr := hid (SrcAt.of_rd (Rd.of_own (HO.out.alloc (.cells #[] 3))))
    have HL := hid (own_lit w [] #[] rfl (by simp) 0 rfl)
    have hb := (Below.refl w.heap.size w).alloc (Nat.le_refl _) (.cells #[] 3)
    clear h
    go_enter Tryz.func211, Tryz.ntmps211
    go_wp2_with (at_builtin; refine app_ints _ rfl _ _ rfl w.heap.size [] xs _ rfl HL.out _ _ _ rfl rfl HSr.out (by simp; omega) (by simp) ?_)
    intro v2 w2 hg2
    have HG := hid hg2
    obtain ⟨s2, c2, rfl⟩ := own_slice hg2.own
    clear hg2
    go_wp2_with fail
    go_ret
    exact ⟨_, rfl, HG.out.own, hb.trans HG.out.bel⟩
end Go.Proofs.YtihhpgklpichgaaGreat.Wk
