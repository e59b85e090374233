/- What lies in memory, for graphs: rows that grow, what alone may have turned, sets of places as a map, Clone at numbers. -/
import Derived.Test.YtbbhbjdpdhbjlaaInts
import Derived.Test.YtbbhbjdpdhbjlaaRun
import Derived.Maps.AppendAt
import Derived.Maps.Own
import Derived.Deep.RegionLaw
import Derived.Deep.RegionWith
import Derived.Deep.DeepCutAuto
import Derived.RegionTactic
import Derived.BigRegion
import Derived.WalkSpells
import Derived.Test.YtbbhbjdpdhbjlaaGp
set_option linter.unusedSimpArgs false
set_option linter.unusedVariables false
namespace Go.Proofs.Ytbbhbjdpdhbjlaa.Ge
open Go.RowKit Go.MapKept Pl Ft Mm In Gp

theorem info_int : (Try.prog.info? 3).map (fun i => (i.zero, i.size, i.bytes)) = some (some (.int .i64 0), 1, 8) := by kernel_rfl
theorem ints_one (l : List Int) : ∀ u ∈ ints l, u.oneCell' = true := by
  intro u hu
  obtain ⟨n, _, rfl⟩ := List.mem_map.1 hu
  rfl
theorem ints_append (a b : List Int) : ints (a ++ b) = ints a ++ ints b := by simp [ints]
theorem ints_len (a : List Int) : (ints a).length = a.length := by simp [ints]
/-- m elements of so many cells each stand at an address: these cells. -/
def SrcAt (w : World) (a : Option Addr) (m size : Nat) (news : List Value) : Prop :=
  news.length = m * size ∧ (m = 0 ∨ ∃ ad, a = some ad ∧ ∀ j u, news[j]? = some u → w.cell? (ad.add j) = some u)
theorem SrcAt.of_rd {w : World} {a : Option Addr} {c : Nat} {xs : List Int} (h : Rd w (.slice a xs.length c) xs) : SrcAt w a xs.length 1 (ints xs) := by
  refine ⟨by simp [ints], ?_⟩
  obtain ⟨a', c', e, h⟩ := h
  simp only [Value.slice.injEq] at e
  obtain ⟨rfl, _, _⟩ := e
  rcases h with h | ⟨g, o, rfl, hg, hc⟩
  · exact .inl (by rw [h]; rfl)
  · refine .inr ⟨_, rfl, fun j u hu => ?_⟩
    have e : (⟨g, o, none⟩ : Addr).add j = ⟨g, o + j, none⟩ := by unfold Addr.add; split <;> simp_all
    have hj : j < xs.length := by have := (List.getElem?_eq_some_iff.1 hu).1; simpa [ints] using this
    rw [e, hc j hj]
    simp [ints, hj] at hu
    simp [hj, ← hu]
section
variable {P : Program} (w : World)
theorem run_app (base : Nat) (t ty e : TypeId) (i : TypeInfo) (z : Value) (size bytes : Nat) (ht : P.underlying t = some (.slice e)) (hi : P.info? e = some i) (hz : i.zero = some z)
    (hsize : i.size = size) (hby : i.bytes = bytes) (hzs : z.cells.size = size) (hsz : 0 < size)
    (v : Value) (n : Nat) (xs : List Value) (hown : w.ownsRow base e size v n xs)
    (a : Option Addr) (m c : Nat) (news : List Value) (hsrc : SrcAt w a m size news) (h1 : ∀ u ∈ news, u.oneCell' = true)
    (h63 : n + m ≤ maxLen) (hbytes : (n + m) * bytes ≤ 140737488355328) (hbase : base ≤ w.heap.size) :
    ∃ v' w', (Builtin.append_ #[t, t] ty #[v, .slice a m c]).run P w = .ok v' w' ∧ w'.ownsRow base e size v' (n + m) (xs ++ news) ∧ w.grownBy w' v.ownBlock ∧ (v'.ownBlock = v.ownBlock ∨ v'.ownBlock = some w.heap.size) := by
  cases a with
  | none =>
    have hm : m = 0 := by
      rcases hsrc.2 with h | ⟨ad, h, _⟩
      · exact h
      · cases h
    subst hm
    obtain rfl : news = [] := List.eq_nil_of_length_eq_zero (by simpa using hsrc.1)
    refine ⟨v, w, ?_, by simpa using hown, ⟨rfl, rfl, rfl, Nat.le_refl _, fun _ _ _ => rfl⟩, .inl rfl⟩
    rcases hown.2 with ⟨rfl, rfl⟩ | ⟨g, cap, cur, rfl, _, _, hnc, _⟩
    · simp [Builtin.append_, run_underlying ht, sizeOf, typeInfo, hi, Builtin.lenOf, Builtin.firstCells]
    · simp [Builtin.append_, run_underlying ht, sizeOf, typeInfo, hi, Builtin.lenOf, Builtin.firstCells, hnc, storeCells]
  | some ad =>
    have hcells : ∀ j u, news[j]? = some u → w.cell? (ad.add j) = some u := by
      rcases hsrc.2 with h | ⟨ad', h, hc⟩
      · subst h
        obtain rfl : news = [] := List.eq_nil_of_length_eq_zero (by simpa using hsrc.1)
        intro j u hu
        simp at hu
      · injection h with h
        subst h
        exact hc
    obtain ⟨v', w', hrun, h2, h3, _, h5⟩ := run_append_own_at (P := P) w base t ty e i z size bytes ht hi hz hsize hby hzs hsz v n xs hown ad m c news hsrc.1 hcells h1 h63 hbytes hbase
    exact ⟨v', w', hrun, h2, h3, h5⟩
theorem wp_app {o : Oper} {a : Act} {K : Act → World → Prop} {Q : Exit → Act → World → Prop} (s x : Operand) (t : TypeId)
    (ho : o.op = .call { callee := .builtin .append, args := #[s, x], argTypes := #[t, t] })
    (base : Nat) (e : TypeId) (i : TypeInfo) (z : Value) (size bytes : Nat) (ht : P.underlying t = some (.slice e)) (hi : P.info? e = some i) (hz : i.zero = some z)
    (hsize : i.size = size) (hby : i.bytes = bytes) (hzs : z.cells.size = size) (hsz : 0 < size)
    (v : Value) (n : Nat) (xs : List Value) (hs : a.eval s = v) (hown : w.ownsRow base e size v n xs)
    (A : Option Addr) (m c : Nat) (news : List Value) (hx : a.eval x = .slice A m c) (hsrc : SrcAt w A m size news) (h1 : ∀ u ∈ news, u.oneCell' = true)
    (h63 : n + m ≤ maxLen) (hbytes : (n + m) * bytes ≤ 140737488355328) (hbase : base ≤ w.heap.size)
    (h : ∀ v' w', w'.ownsRow base e size v' (n + m) (xs ++ news) → w.grownBy w' v.ownBlock → (v'.ownBlock = v.ownBlock ∨ v'.ownBlock = some w.heap.size) → K (a.put o.dst v') w') : o.wp P a w K Q := by
  obtain ⟨v', w', hrun, h2, h3, h4⟩ := run_app (P := P) w base t o.type e i z size bytes ht hi hz hsize hby hzs hsz v n xs hown A m c news hsrc h1 h63 hbytes hbase
  unfold Oper.wp
  simp [execOp, ho, resolve, invoke, builtin, hs, hx, hrun, Result.andThen]
  exact h v' w' h2 h3 h4
theorem wpList_app {ops : Array Oper} {rest : List Oper} {o : Oper} {a : Act} {Q : Exit → Act → World → Prop} (hgd : o.guard = none) (s x : Operand) (t : TypeId)
    (ho : o.op = .call { callee := .builtin .append, args := #[s, x], argTypes := #[t, t] })
    (base : Nat) (e : TypeId) (i : TypeInfo) (z : Value) (size bytes : Nat) (ht : P.underlying t = some (.slice e)) (hi : P.info? e = some i) (hz : i.zero = some z)
    (hsize : i.size = size) (hby : i.bytes = bytes) (hzs : z.cells.size = size) (hsz : 0 < size)
    (v : Value) (n : Nat) (xs : List Value) (hs : a.eval s = v) (hown : w.ownsRow base e size v n xs)
    (A : Option Addr) (m c : Nat) (news : List Value) (hx : a.eval x = .slice A m c) (hsrc : SrcAt w A m size news) (h1 : ∀ u ∈ news, u.oneCell' = true)
    (h63 : n + m ≤ maxLen) (hbytes : (n + m) * bytes ≤ 140737488355328) (hbase : base ≤ w.heap.size)
    (h : ∀ v' w', w'.ownsRow base e size v' (n + m) (xs ++ news) → w.grownBy w' v.ownBlock → (v'.ownBlock = v.ownBlock ∨ v'.ownBlock = some w.heap.size) → wpList P ops Q rest (a.put o.dst v') w') : wpList P ops Q (o :: rest) a w :=
  wpList_plain hgd fun _ hK => wp_app w s x t ho base e i z size bytes ht hi hz hsize hby hzs hsz v n xs hs hown A m c news hx hsrc h1 h63 hbytes hbase fun v' w' h2 h3 h4 => hK _ _ (h v' w' h2 h3 h4)
theorem step_app {ops : Array Oper} {o : Oper} {a : Act} {K : Act → World → Prop} {Q : Exit → Act → World → Prop} {E : Prop} (hgd : o.guard = none) (s x : Operand) (t : TypeId)
    (ho : o.op = .call { callee := .builtin .append, args := #[s, x], argTypes := #[t, t] })
    (base : Nat) (e : TypeId) (i : TypeInfo) (z : Value) (size bytes : Nat) (ht : P.underlying t = some (.slice e)) (hi : P.info? e = some i) (hz : i.zero = some z)
    (hsize : i.size = size) (hby : i.bytes = bytes) (hzs : z.cells.size = size) (hsz : 0 < size)
    (v : Value) (n : Nat) (xs : List Value) (hs : a.eval s = v) (hown : w.ownsRow base e size v n xs)
    (A : Option Addr) (m c : Nat) (news : List Value) (hx : a.eval x = .slice A m c) (hsrc : SrcAt w A m size news) (h1 : ∀ u ∈ news, u.oneCell' = true)
    (h63 : n + m ≤ maxLen) (hbytes : (n + m) * bytes ≤ 140737488355328) (hbase : base ≤ w.heap.size)
    (h : ∀ v' w', w'.ownsRow base e size v' (n + m) (xs ++ news) → w.grownBy w' v.ownBlock → (v'.ownBlock = v.ownBlock ∨ v'.ownBlock = some w.heap.size) → K (a.put o.dst v') w') :
    if Region.wanted o (yielded ops a.tmps) = true then Oper.wp P o a w K Q else E := by
  have hw : Region.wanted o (yielded ops a.tmps) = true := by simp [Region.wanted, hgd]
  rw [if_pos hw]
  exact wp_app w s x t ho base e i z size bytes ht hi hz hsize hby hzs hsz v n xs hs hown A m c news hx hsrc h1 h63 hbytes hbase h
end
theorem SrcAt.lit (w : World) (ys : List Int) (cs : Array Value) (h : cs.toList = ints ys) (n : Nat) (hn : n = ys.length) : SrcAt (w.alloc (.cells cs 3)) (some ⟨w.heap.size, 0, none⟩) n 1 (ints ys) := by
  subst hn
  exact ⟨by simp [ints], .inr ⟨_, rfl, new_cells w cs _ _ h⟩⟩
theorem SrcAt.drew {w : World} {a : Option Addr} {m size : Nat} {news : List Value} (h : SrcAt w a m size news) : SrcAt w.drew a m size news := h
theorem SrcAt.on {w w' : World} {a : Option Addr} {m size : Nat} {news : List Value} (h : SrcAt w a m size news) (hb : ∀ p : Addr, p.block < w.heap.size → w'.cell? p = w.cell? p) : SrcAt w' a m size news := by
  refine ⟨h.1, ?_⟩
  rcases h.2 with h0 | ⟨ad, e, hc⟩
  · exact .inl h0
  · refine .inr ⟨ad, e, fun j u hu => ?_⟩
    have := hc j u hu
    rw [hb _ (World.block_lt_of_cell? _ _ this)]
    exact this
theorem SrcAt.at_ (w : World) (ys : List Int) (cs : Array Value) (H n : Nat) (h : cs.toList = ints ys) (hH : w.heap.size = H) (hn : n = ys.length) : SrcAt (w.alloc (.cells cs 3)) (some ⟨H, 0, none⟩) n 1 (ints ys) := by
  subst hH
  exact .lit w ys cs h n hn
/-- The row v of numbers has grown to v': these numbers; of what there was just its own block may have turned. -/
structure Grows (B : Nat) (xs : List Int) (v v' : Value) (w w' : World) : Prop where
  own : w'.ownsRow B 3 1 v' xs.length (ints xs)
  bel : Below B w w'
  far : ∀ g, g < w.heap.size → v.ownBlock ≠ some g → w'.heap[g]? = w.heap[g]?
  at_ : v'.ownBlock = v.ownBlock ∨ ∃ g, v'.ownBlock = some g ∧ w.heap.size ≤ g
theorem Grows.refl {B : Nat} {xs : List Int} {v : Value} {w : World} (h : w.ownsRow B 3 1 v xs.length (ints xs)) : Grows B xs v v w w := ⟨h, Below.refl _ _, fun _ _ _ => rfl, .inl rfl⟩
theorem Grows.trans {B : Nat} {xs ys : List Int} {v0 v1 v2 : Value} {w0 w1 w2 : World} (h : Grows B xs v0 v1 w0 w1) (k : Grows B ys v1 v2 w1 w2) : Grows B ys v0 v2 w0 w2 := by
  have hz : w0.heap.size ≤ w1.heap.size := h.bel.size
  refine ⟨k.own, h.bel.trans k.bel, fun g hg hne => ?_, ?_⟩
  · refine (k.far g (by omega) ?_).trans (h.far g hg hne)
    rcases h.at_ with e | ⟨g', e, hg'⟩
    · rw [e]; exact hne
    · rw [e]; intro e2; simp only [Option.some.injEq] at e2; omega
  · rcases k.at_ with e | ⟨g', e, hg'⟩
    · rw [e]
      exact h.at_
    · exact .inr ⟨g', e, by omega⟩
theorem Grows.more {B : Nat} {xs : List Int} {v0 v1 : Value} {w0 w1 w2 : World} (h : Grows B xs v0 v1 w0 w1) (hB : B ≤ w0.heap.size) (hb : Below w1.heap.size w1 w2) : Grows B xs v0 v1 w0 w2 := by
  have hz : w0.heap.size ≤ w1.heap.size := h.bel.size
  exact ⟨own_on h.own hb, h.bel.trans (hb.mono (by omega)), fun g hg hne => (hb.block g (by omega)).trans (h.far g hg hne), h.at_⟩
theorem Grows.row {B : Nat} {xs : List Int} {v0 v1 : Value} {w0 w1 : World} (h : Grows B xs v0 v1 w0 w1) {g : Nat} {t : TypeId} {cs : Array Value} (hr : Row w0 g t cs) (hne : v0.ownBlock ≠ some g) : Row w1 g t cs := (h.far g hr.lt hne).trans hr
theorem no_own {w : World} {g B n size : Nat} {t e : TypeId} {cs : Array Value} {v : Value} {xs : List Value} (hr : Row w g t cs) (h : w.ownsRow B e size v n xs) (hne : e ≠ t) : v.ownBlock ≠ some g := by
  intro hg
  rcases h.2 with ⟨rfl, _⟩ | ⟨g1, cap, cur, rfl, _, hh, _⟩
  · cases hg
  simp only [Value.ownBlock, Option.some.injEq] at hg
  subst hg
  unfold Row at hr
  rw [hr] at hh
  simp only [Option.some.injEq, Obj.cells.injEq] at hh
  exact hne hh.2.1.symm
theorem grows_of {B : Nat} {xs ys : List Int} {v v' : Value} {w w' : World} (hown : w.ownsRow B 3 1 v xs.length (ints xs)) (hB : B ≤ w.heap.size) (h : w'.ownsRow B 3 1 v' (xs.length + ys.length) (ints xs ++ ints ys)) (hg : w.grownBy w' v.ownBlock) (ha : v'.ownBlock = v.ownBlock ∨ v'.ownBlock = some w.heap.size) : Grows B (xs ++ ys) v v' w w' := by
  refine ⟨?_, (Below.refl B w).grown hg hB (fun g hg => (hown.lt g hg).1), fun g hlt hne => hg.block g hlt (fun e => hne e.symm), ?_⟩
  · rw [List.length_append, ints_append]
    exact h
  · rcases ha with e | e
    · exact .inl e
    · exact .inr ⟨_, e, Nat.le_refl _⟩
section
variable {ops : Array Oper} {rest : List Oper} {o : Oper} {a : Act} {Q : Exit → Act → World → Prop} (w : World)
theorem app_ints (hgd : o.guard = none) (s x : Operand)
    (ho : o.op = .call { callee := .builtin .append, args := #[s, x], argTypes := #[26, 26] })
    (B : Nat) (xs ys : List Int) (v : Value) (hs : a.eval s = v) (hown : w.ownsRow B 3 1 v xs.length (ints xs))
    (A : Option Addr) (m c : Nat) (hx : a.eval x = .slice A m c) (hm : m = ys.length) (hsrc : SrcAt w A m 1 (ints ys))
    (hl : xs.length + ys.length ≤ 1000000000) (hB : B ≤ w.heap.size)
    (h : ∀ v' w', Grows B (xs ++ ys) v v' w w' → wpList Try.prog ops Q rest (a.put o.dst v') w') : wpList Try.prog ops Q (o :: rest) a w := by
  obtain ⟨i0, hi, hz0, hz1, hz2⟩ := info_parts info_int
  subst hm
  exact wpList_app w hgd s x 26 ho B 3 i0 (.int .i64 0) 1 8 Try.underlying26 hi hz0 hz1 hz2 rfl (by decide) v xs.length (ints xs) hs hown A ys.length c (ints ys) hx hsrc (ints_one ys) (by simp only [maxLen]; omega) (by omega) hB
    (fun v' w' h1 h2 h3 => h v' w' (grows_of hown hB h1 h2 h3))
theorem stp_ints {K : Act → World → Prop} {E : Prop} (hgd : o.guard = none) (s x : Operand)
    (ho : o.op = .call { callee := .builtin .append, args := #[s, x], argTypes := #[26, 26] })
    (B : Nat) (xs ys : List Int) (v : Value) (hs : a.eval s = v) (hown : w.ownsRow B 3 1 v xs.length (ints xs))
    (A : Option Addr) (m c : Nat) (hx : a.eval x = .slice A m c) (hm : m = ys.length) (hsrc : SrcAt w A m 1 (ints ys))
    (hl : xs.length + ys.length ≤ 1000000000) (hB : B ≤ w.heap.size)
    (h : ∀ v' w', Grows B (xs ++ ys) v v' w w' → K (a.put o.dst v') w') : if Region.wanted o (yielded ops a.tmps) = true then Oper.wp Try.prog o a w K Q else E := by
  obtain ⟨i0, hi, hz0, hz1, hz2⟩ := info_parts info_int
  subst hm
  exact step_app w hgd s x 26 ho B 3 i0 (.int .i64 0) 1 8 Try.underlying26 hi hz0 hz1 hz2 rfl (by decide) v xs.length (ints xs) hs hown A ys.length c (ints ys) hx hsrc (ints_one ys) (by simp only [maxLen]; omega) (by omega) hB
    (fun v' w' h1 h2 h3 => h v' w' (grows_of hown hB h1 h2 h3))
end
theorem own_lit (w : World) (ys : List Int) (cs : Array Value) (h : cs.toList = ints ys) (hl : ys.length ≤ 1000) (n : Nat) (hn : n = ys.length) : (w.alloc (.cells cs 3)).ownsRow w.heap.size 3 1 (.slice (some ⟨w.heap.size, 0, none⟩) n n) ys.length (ints ys) := by
  subst hn
  rw [← h]
  have hs : cs.size = ys.length * 1 := by
    have := congrArg List.length h
    simp only [Array.length_toList, ints, List.length_map] at this
    omega
  exact World.ownsRow_lit (base := w.heap.size) (e := 3) (size := 1) w cs ys.length (Nat.le_refl _) (by simp only [maxLen]; omega) hs
structure Only (p : Nat → Prop) (w w' : World) : Prop where
  os : w'.os = w.os
  tape : w'.tape = w.tape
  output : w'.output = w.output
  size : w.heap.size ≤ w'.heap.size
  block : ∀ k, k < w.heap.size → ¬ p k → w'.heap[k]? = w.heap[k]?
theorem Only.refl (p : Nat → Prop) (w : World) : Only p w w := ⟨rfl, rfl, rfl, Nat.le_refl _, fun _ _ _ => rfl⟩
theorem Only.trans {p : Nat → Prop} {a b c : World} (h : Only p a b) (k : Only p b c) : Only p a c :=
  ⟨k.os.trans h.os, k.tape.trans h.tape, k.output.trans h.output, Nat.le_trans h.size k.size, fun i hi hn => (k.block i (Nat.lt_of_lt_of_le hi h.size) hn).trans (h.block i hi hn)⟩
theorem Only.mono {p q : Nat → Prop} {a b : World} (h : Only p a b) (hpq : ∀ k, p k → q k) : Only q a b :=
  ⟨h.os, h.tape, h.output, h.size, fun i hi hn => h.block i hi (fun hp => hn (hpq i hp))⟩
theorem Only.of_below {p : Nat → Prop} {a b : World} (h : Below a.heap.size a b) : Only p a b :=
  ⟨h.os, h.tape, h.output, h.size, fun i hi _ => h.block i hi⟩
theorem Only.below {p : Nat → Prop} {B : Nat} {a b : World} (h : Only p a b) (hB : B ≤ a.heap.size) (hp : ∀ k, p k → B ≤ k) : Below B a b :=
  ⟨h.os, h.tape, h.output, h.size, fun i hi => h.block i (by omega) (fun hpi => by have := hp i hpi; omega)⟩
theorem Only.setCell {p : Nat → Prop} {a b : World} (h : Only p a b) {g : Nat} (hp : p g) (o : Nat) (u : Value) : Only p a (b.setCell ⟨g, o, none⟩ u) :=
  h.trans ⟨rfl, rfl, rfl, by simp [World.setCell], fun k _ hn => Below.heap_setCell _ _ _ _ (fun e => hn (by simp at e; rw [e]; exact hp))⟩
theorem Only.fresh {p : Nat → Prop} {a b : World} (h : Only p a b) {g : Nat} (hg : a.heap.size ≤ g) (o : Nat) (u : Value) : Only p a (b.setCell ⟨g, o, none⟩ u) :=
  ⟨h.os, h.tape, h.output, by have := h.size; simpa [World.setCell] using this, fun k hk hn => (Below.heap_setCell _ _ _ _ (by simp; omega)).trans (h.block k hk hn)⟩
theorem own_only {p : Nat → Prop} {w w' : World} {base : Nat} {e : TypeId} {size : Nat} {v : Value} {n : Nat} {xs : List Value} (h : w.ownsRow base e size v n xs) (hv : ∀ g, v.ownBlock = some g → ¬ p g) (hb : Only p w w') : w'.ownsRow base e size v n xs := by
  refine ⟨h.1, ?_⟩
  rcases h.2 with h0 | ⟨g, cap, cur, rfl, hg, hr, hrest⟩
  · exact .inl h0
  · exact .inr ⟨g, cap, cur, rfl, hg, (hb.block g (Array.getElem?_eq_some_iff.1 hr).1 (hv g rfl)).trans hr, hrest⟩
theorem row_only {p : Nat → Prop} {w w' : World} {g : Nat} {t : TypeId} {cs : Array Value} (h : Row w g t cs) (hg : ¬ p g) (hb : Only p w w') : Row w' g t cs := (hb.block g h.lt hg).trans h
theorem findNow_no (p : Int) : ∀ (l : List MapEntry) (i : Nat), (∀ e ∈ l, ∃ q : Int, e.key = .int .i64 q ∧ q ≠ p) → Instr.findNow (.int .i64) (.int .i64 p) l i = some none
  | [], _, _ => rfl
  | e :: l, i, h => by
    obtain ⟨q, hq, hne⟩ := h e List.mem_cons_self
    have hs : Instr.sameNow (.int .i64) (.int .i64 p) e.key = some false := by
      rw [hq]
      simp only [Instr.sameNow, if_true]
      rw [Option.some.injEq, beq_eq_false_iff_ne]
      exact fun h => hne h.symm
    unfold Instr.findNow
    rw [hs]
    exact findNow_no p l (i + 1) (fun e he => h e (List.mem_cons_of_mem _ he))
theorem findNow_yes (p : Int) (v : Value) : ∀ (l : List MapEntry) (i : Nat), (∀ e ∈ l, ∃ q : Int, e.key = .int .i64 q ∧ (q = p → e.val = v)) → (∃ e ∈ l, e.key = .int .i64 p) → ∃ j, Instr.findNow (.int .i64) (.int .i64 p) l i = some (some (j, v))
  | [], _, _, h => by obtain ⟨e, he, _⟩ := h; cases he
  | e :: l, i, h, hex => by
    obtain ⟨q, hq, hv⟩ := h e List.mem_cons_self
    by_cases hqp : q = p
    · have hs : Instr.sameNow (.int .i64) (.int .i64 p) e.key = some true := by
        rw [hq, hqp]
        simp [Instr.sameNow]
      refine ⟨i, ?_⟩
      unfold Instr.findNow
      rw [hs, hv hqp]
    · have hs : Instr.sameNow (.int .i64) (.int .i64 p) e.key = some false := by
        rw [hq]
        simp only [Instr.sameNow, if_true]
        rw [Option.some.injEq, beq_eq_false_iff_ne]
        exact fun h => hqp h.symm
      obtain ⟨e', he', hk'⟩ := hex
      have he2 : e' ∈ l := by
        rcases List.mem_cons.1 he' with h1 | h1
        · subst h1
          rw [hq] at hk'
          simp only [Value.int.injEq, true_and] at hk'
          exact absurd hk' hqp
        · exact h1
      obtain ⟨j, hj⟩ := findNow_yes p v l (i + 1) (fun e he => h e (List.mem_cons_of_mem _ he)) ⟨e', he2, hk'⟩
      refine ⟨j, ?_⟩
      unfold Instr.findNow
      rw [hs]
      exact hj
theorem check_int (n : Int) (w : World) (em : Bool) : (Instr.checkKey em 10000 3 (.int .i64 n)).run Try.prog w = .ok () w := run_checkKey Try.underlying3 (by simp [IsKey]) em 9999
def WaysPost (l : List Int) (w : World) (e : Ending) (w' : World) : Prop := ∃ v, e = .returned v ∧ w'.ownsRow w.heap.size 3 1 v l.length (ints l) ∧ Below w.heap.size w w'
theorem one_lit (w : World) (l : List Int) (cs : Array Value) (h : cs.toList = ints l) (hl : l.length ≤ 1000) (n : Nat) (hn : n = l.length) {B : Nat} (hB : B ≤ w.heap.size) : (w.alloc (.cells cs 3)).ownsRow B 3 1 (.slice (some ⟨w.heap.size, 0, none⟩) n n) l.length (ints l) := own_mono (own_lit w l cs h hl n hn) hB
set_option maxRecDepth 100000 in
set_option maxHeartbeats 1000000 in
theorem clone_c (xs : List Int) (B : Nat) (v : Value) (w : World) (h : w.ownsRow B 3 1 v xs.length (ints xs)) (hl : xs.length ≤ 1000000) :
    Calls Try.prog 90 #[v] w (WaysPost xs w) := by
  have HO := hid h
  have hq := fun (a : Option Addr) (n c : Nat) (w : World) => Lib.run_eql_slice_nil w 26 3 a n c 0 0 Try.underlying26
  rcases h.2 with ⟨rfl, h0⟩ | ⟨g, cap, cur, rfl, _⟩
  · obtain rfl : xs = [] := List.eq_nil_of_length_eq_zero h0
    clear h
    go_enter Try.func90, Try.ntmps90
    go_wp2_with fail
    go_ret
    exact ⟨_, rfl, World.ownsRow_nil _ _ _ _, Below.refl _ _⟩
  · have HSr := hid (SrcAt.of_rd (Rd.of_own (HO.out.alloc (.cells #[] 3))))
    have HL := hid (own_lit w [] #[] rfl (by simp) 0 rfl)
    have hb := (Below.refl w.heap.size w).alloc (Nat.le_refl _) (.cells #[] 3)
    clear h
    go_enter Try.func90, Try.ntmps90
    go_wp2_with (at_builtin; refine app_ints _ rfl _ _ rfl w.heap.size [] xs _ rfl HL.out _ _ _ rfl rfl HSr.out (by simp; omega) (by simp) ?_)
    intro v2 w2 hg2
    have HG := hid hg2
    obtain ⟨s2, c2, rfl⟩ := own_slice hg2.own
    clear hg2
    go_wp2_with fail
    go_ret
    exact ⟨_, rfl, HG.out.own, hb.trans HG.out.bel⟩
def bEnt (p j : Nat) : MapEntry := { key := .int .i64 p, val := .bool true, born := j }
def bEnts (ms : List Nat) : Array MapEntry := ((List.range ms.length).map fun j => bEnt (ms.getD j 0) j).toArray
theorem bEnts_push (ms : List Nat) (p : Nat) : bEnts (ms ++ [p]) = (bEnts ms).push (bEnt p ms.length) := by
  apply Array.toList_inj.1
  unfold bEnts
  rw [Array.toList_push]
  simp only [List.length_append, List.length_singleton, List.range_succ, List.map_append, List.map_singleton]
  congr 1
  · apply List.map_congr_left
    intro j hj
    have hj := List.mem_range.1 hj
    rw [List.getD_eq_getElem?_getD, List.getD_eq_getElem?_getD, List.getElem?_append_left hj]
  · simp
theorem mem_bEnts {ms : List Nat} {e : MapEntry} (h : e ∈ (bEnts ms).toList) : ∃ p j, p ∈ ms ∧ e = bEnt p j := by
  unfold bEnts at h
  simp only [List.mem_map, List.mem_range] at h
  obtain ⟨j, hj, rfl⟩ := h
  exact ⟨ms.getD j 0, j, by simp [hj], rfl⟩
theorem bEnts_mem {ms : List Nat} {p : Nat} (h : p ∈ ms) : ∃ j, bEnt p j ∈ (bEnts ms).toList := by
  obtain ⟨j, hj, rfl⟩ := List.mem_iff_getElem.1 h
  refine ⟨j, ?_⟩
  unfold bEnts
  simp only [List.mem_map, List.mem_range]
  exact ⟨j, hj, by simp [hj]⟩
/-- Block b is the map of these places. -/
def SetAt (w : World) (b : Nat) (ms : List Nat) : Prop := w.heap[b]? = some (.map (bEnts ms) ms.length)
theorem SetAt.lt {w : World} {b : Nat} {ms : List Nat} (h : SetAt w b ms) : b < w.heap.size := (Array.getElem?_eq_some_iff.1 h).1
theorem SetAt.only {p : Nat → Prop} {w w' : World} {b : Nat} {ms : List Nat} (h : SetAt w b ms) (hp : ¬ p b) (ho : Only p w w') : SetAt w' b ms := (ho.block b h.lt hp).trans h
theorem SetAt.on {w w' : World} {b : Nat} {ms : List Nat} (h : SetAt w b ms) (hb : Below w.heap.size w w') : SetAt w' b ms := (hb.block b h.lt).trans h
theorem SetAt.alloc {w : World} {b : Nat} {ms : List Nat} (h : SetAt w b ms) (o : Obj) : SetAt (w.alloc o) b ms := h.on ((Below.refl _ _).alloc (Nat.le_refl _) o)
theorem SetAt.set {w : World} {b : Nat} {ms : List Nat} (h : SetAt w b ms) {p : Addr} (hp : b ≠ p.block) (u : Value) : SetAt (w.setCell p u) b ms := (Below.heap_setCell w p u b hp).trans h
theorem setAt_new (w : World) : SetAt (w.alloc (.map #[] 0)) w.heap.size [] := heap_alloc_last w _
theorem set_yes {w : World} {b : Nat} {ms : List Nat} {p : Nat} (h : SetAt w b ms) (hp : p ∈ ms) :
    (Instr.lookup 82 (.map (some b)) (.int .i64 p) false).run Try.prog w = .ok (.bool true) w := by
  obtain ⟨j, hj⟩ := findNow_yes (p : Int) (.bool true) (bEnts ms).toList 0 (fun e he => by
    obtain ⟨q, j, _, rfl⟩ := mem_bEnts he
    refine ⟨q, rfl, fun e => ?_⟩
    obtain rfl : q = p := by omega
    rfl) (by
    obtain ⟨j, hj⟩ := bEnts_mem hp
    exact ⟨_, hj, rfl⟩)
  have hk := check_int p w
  simp [Instr.lookup, run_underlying Try.underlying82, run_underlying Try.underlying3, Go.MapKept.run_getObj_map h, hk, Instr.findKey, Result.andThen, hj]
theorem set_no {w : World} {b : Nat} {ms : List Nat} {p : Nat} (h : SetAt w b ms) (hp : p ∉ ms) :
    (Instr.lookup 82 (.map (some b)) (.int .i64 p) false).run Try.prog w = .ok (.bool false) w := by
  have hj := findNow_no (p : Int) (bEnts ms).toList 0 (fun e he => by
    obtain ⟨q, j, hq, rfl⟩ := mem_bEnts he
    refine ⟨q, rfl, fun e => ?_⟩
    obtain rfl : q = p := by omega
    exact hp hq)
  have hk := check_int p w
  have hz : (zeroValue 4).run Try.prog w = .ok (.bool false) w := by kernel_rfl
  simp [Instr.lookup, run_underlying Try.underlying82, run_underlying Try.underlying3, Go.MapKept.run_getObj_map h, hk, Instr.findKey, Result.andThen, hj, hz]
def setSet (w : World) (b : Nat) (ms : List Nat) : World := { w with heap := w.heap.setIfInBounds b (.map (bEnts ms) ms.length) }
theorem setSet_at {w : World} {b : Nat} (hb : b < w.heap.size) (ms' : List Nat) : SetAt (setSet w b ms') b ms' := by
  unfold SetAt setSet
  simp [hb]
theorem setSet_only (w : World) (b : Nat) (ms : List Nat) : Only (fun g => g = b) w (setSet w b ms) :=
  ⟨rfl, rfl, rfl, by simp [setSet], fun k hk hne => by unfold setSet; simp only; rw [Array.getElem?_setIfInBounds_ne (fun e => hne e.symm)]⟩
theorem run_setPut {w : World} {b : Nat} {ms : List Nat} {p : Nat} (h : SetAt w b ms) (hp : p ∉ ms) :
    (Instr.mapUpdate 82 (.map (some b)) (.int .i64 p) (.bool true)).run Try.prog w = .ok () (setSet w b (ms ++ [p])) := by
  have hj := findNow_no (p : Int) (bEnts ms).toList 0 (fun e he => by
    obtain ⟨q, j, hq, rfl⟩ := mem_bEnts he
    refine ⟨q, rfl, fun e => ?_⟩
    obtain rfl : q = p := by omega
    exact hp hq)
  have hk := check_int p w
  unfold setSet
  rw [bEnts_push, List.length_append]
  simp [Instr.mapUpdate, run_underlying Try.underlying82, run_underlying Try.underlying3, Go.MapKept.run_getObj_map h, hk, Instr.findKey, Result.andThen, hj, Go.MapKept.run_setObj_map _ h, bEnt]
theorem stp_setPut {ops : Array Oper} {o : Oper} {a : Act} {K : Act → World → Prop} {Q : Exit → Act → World → Prop} {E : Prop} (w : World) (hgd : o.guard = none) (m x v : Operand) (hop : o.op = .mapUpdate 82 m x v) (hd : o.dst = none)
    {b : Nat} {ms : List Nat} {p : Nat} (h : SetAt w b ms) (hp : p ∉ ms) (hm : a.eval m = .map (some b)) (hx : a.eval x = .int .i64 p) (hv : a.eval v = .bool true)
    (hK : ∀ w', SetAt w' b (ms ++ [p]) → Only (fun g => g = b) w w' → K a w') : if Region.wanted o (yielded ops a.tmps) = true then Oper.wp Try.prog o a w K Q else E := by
  have hw : Region.wanted o (yielded ops a.tmps) = true := by simp [Region.wanted, hgd]
  rw [if_pos hw]
  have hrun := run_setPut h hp
  unfold Oper.wp
  simp [execOp, hop, hm, hx, hv, hrun, Result.andThen]
  show K (a.put o.dst undef) _
  rw [hd]
  exact hK _ (setSet_at h.lt _) (setSet_only _ _ _)
theorem only_fresh {p : Nat → Prop} {B : Nat} {w w1 w2 : World} (h : Only p w w1) (hb : Below B w1 w2) (hB : w.heap.size ≤ B) : Only p w w2 :=
  ⟨hb.os.trans h.os, hb.tape.trans h.tape, hb.output.trans h.output, Nat.le_trans h.size hb.size, fun k hk hne => (hb.block k (by omega)).trans (h.block k hk hne)⟩
theorem only_mix {p q : Nat → Prop} {w0 w w' : World} (h : Only p w0 w) (ho : Only q w w') (hq : ∀ k, q k → p k ∨ w0.heap.size ≤ k) : Only p w0 w' :=
  ⟨ho.os.trans h.os, ho.tape.trans h.tape, ho.output.trans h.output, Nat.le_trans h.size ho.size, fun k hk hn => (ho.block k (Nat.lt_of_lt_of_le hk h.size) (fun hqk => by
    rcases hq k hqk with h1 | h1
    · exact hn h1
    · omega)).trans (h.block k hk hn)⟩
theorem grows_only {B : Nat} {xs : List Int} {v v' : Value} {w w' : World} (h : Grows B xs v v' w w') : Only (fun k => v.ownBlock = some k) w w' :=
  ⟨h.bel.os, h.bel.tape, h.bel.output, h.bel.size, fun k hk hn => h.far k hk hn⟩
def truesL (f : Nat → Bool) (k : Nat) : List Int := ((List.range k).filter f).map fun (j : Nat) => (j : Int)
theorem truesL_yes {f : Nat → Bool} {k : Nat} (h : f k = true) : truesL f (k + 1) = truesL f k ++ [(k : Int)] := by simp [truesL, List.range_succ, h]
theorem truesL_no {f : Nat → Bool} {k : Nat} (h : f k = false) : truesL f (k + 1) = truesL f k := by simp [truesL, List.range_succ, h]
theorem truesL_len (f : Nat → Bool) (k : Nat) : (truesL f k).length ≤ k := by
  unfold truesL
  rw [List.length_map]
  exact Nat.le_trans (List.length_filter_le _ _) (by simp)
end Go.Proofs.Ytbbhbjdpdhbjlaa.Ge
