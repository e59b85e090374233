/- append onto a row of one's own, from whatever slice: nil, empty or not. No program is spoken of here · append onto a row of numbers of one's own, in the program's own types. -/
import Derived.Test.YtffibmlgdacafaaDoorBase
import Derived.Maps.AppendAt
import Derived.Deep.RegionLaw
set_option linter.unusedSimpArgs false
set_option linter.unusedVariables false
namespace Go.Proofs.YtffibmlgdacafaaDoor.Im
open Go.RowKit Pl Ft Mm In C2

/-- m elements of so many cells each stand at an address: these cells. -/
def SrcAt (w : World) (a : Option Addr) (m size : Nat) (news : List Value) : Prop :=
  news.length = m * size ∧ (m = 0 ∨ ∃ ad, a = some ad ∧ ∀ j u, news[j]? = some u → w.cell? (ad.add j) = some u)
theorem SrcAt.of_rd {w : World} {a : Option Addr} {c : Nat} {xs : List Int} (h : Rd w (.slice a xs.length c) xs) : SrcAt w a xs.length 1 (ints xs) := by
  refine ⟨by simp [ints], ?_⟩
  obtain ⟨a', c', e, h⟩ := h
  simp only [Value.slice.injEq] at e
  obtain ⟨rfl, _, _⟩ := e
  rcases h with h | ⟨g, o, rfl, hg, hc⟩
  · exact .inl (by rw [h]; rfl)
  · refine .inr ⟨_, rfl, fun j u hu => ?_⟩
    have e : (⟨g, o, none⟩ : Addr).add j = ⟨g, o + j, none⟩ := by unfold Addr.add; split <;> simp_all
    have hj : j < xs.length := by have := (List.getElem?_eq_some_iff.1 hu).1; simpa [ints] using this
    rw [e, hc j hj]
    simp [ints, hj] at hu
    simp [hj, ← hu]
section
variable {P : Program} (w : World)
theorem run_app (base : Nat) (t ty e : TypeId) (i : TypeInfo) (z : Value) (size bytes : Nat) (ht : P.underlying t = some (.slice e)) (hi : P.info? e = some i) (hz : i.zero = some z)
    (hsize : i.size = size) (hby : i.bytes = bytes) (hzs : z.cells.size = size) (hsz : 0 < size)
    (v : Value) (n : Nat) (xs : List Value) (hown : w.ownsRow base e size v n xs)
    (a : Option Addr) (m c : Nat) (news : List Value) (hsrc : SrcAt w a m size news) (h1 : ∀ u ∈ news, u.oneCell' = true)
    (h63 : n + m ≤ maxLen) (hbytes : (n + m) * bytes ≤ 140737488355328) (hbase : base ≤ w.heap.size) :
    ∃ v' w', (Builtin.append_ #[t, t] ty #[v, .slice a m c]).run P w = .ok v' w' ∧ w'.ownsRow base e size v' (n + m) (xs ++ news) ∧ w.grownBy w' v.ownBlock ∧ (v'.ownBlock = v.ownBlock ∨ v'.ownBlock = some w.heap.size) := by
  cases a with
  | none =>
    have hm : m = 0 := by
      rcases hsrc.2 with h | ⟨ad, h, _⟩
      · exact h
      · cases h
    subst hm
    obtain rfl : news = [] := List.eq_nil_of_length_eq_zero (by simpa using hsrc.1)
    refine ⟨v, w, ?_, by simpa using hown, ⟨rfl, rfl, rfl, Nat.le_refl _, fun _ _ _ => rfl⟩, .inl rfl⟩
    rcases hown.2 with ⟨rfl, rfl⟩ | ⟨g, cap, cur, rfl, _, _, hnc, _⟩
    · simp [Builtin.append_, run_underlying ht, sizeOf, typeInfo, hi, Builtin.lenOf, Builtin.firstCells]
    · simp [Builtin.append_, run_underlying ht, sizeOf, typeInfo, hi, Builtin.lenOf, Builtin.firstCells, hnc, storeCells]
  | some ad =>
    have hcells : ∀ j u, news[j]? = some u → w.cell? (ad.add j) = some u := by
      rcases hsrc.2 with h | ⟨ad', h, hc⟩
      · subst h
        obtain rfl : news = [] := List.eq_nil_of_length_eq_zero (by simpa using hsrc.1)
        intro j u hu
        simp at hu
      · injection h with h
        subst h
        exact hc
    obtain ⟨v', w', hrun, h2, h3, _, h5⟩ := run_append_own_at (P := P) w base t ty e i z size bytes ht hi hz hsize hby hzs hsz v n xs hown ad m c news hsrc.1 hcells h1 h63 hbytes hbase
    exact ⟨v', w', hrun, h2, h3, h5⟩
theorem wp_app {o : Oper} {a : Act} {K : Act → World → Prop} {Q : Exit → Act → World → Prop} (s x : Operand) (t : TypeId)
    (ho : o.op = .call { callee := .builtin .append, args := #[s, x], argTypes := #[t, t] })
    (base : Nat) (e : TypeId) (i : TypeInfo) (z : Value) (size bytes : Nat) (ht : P.underlying t = some (.slice e)) (hi : P.info? e = some i) (hz : i.zero = some z)
    (hsize : i.size = size) (hby : i.bytes = bytes) (hzs : z.cells.size = size) (hsz : 0 < size)
    (v : Value) (n : Nat) (xs : List Value) (hs : a.eval s = v) (hown : w.ownsRow base e size v n xs)
    (A : Option Addr) (m c : Nat) (news : List Value) (hx : a.eval x = .slice A m c) (hsrc : SrcAt w A m size news) (h1 : ∀ u ∈ news, u.oneCell' = true)
    (h63 : n + m ≤ maxLen) (hbytes : (n + m) * bytes ≤ 140737488355328) (hbase : base ≤ w.heap.size)
    (h : ∀ v' w', w'.ownsRow base e size v' (n + m) (xs ++ news) → w.grownBy w' v.ownBlock → (v'.ownBlock = v.ownBlock ∨ v'.ownBlock = some w.heap.size) → K (a.put o.dst v') w') : o.wp P a w K Q := by
  obtain ⟨v', w', hrun, h2, h3, h4⟩ := run_app (P := P) w base t o.type e i z size bytes ht hi hz hsize hby hzs hsz v n xs hown A m c news hsrc h1 h63 hbytes hbase
  unfold Oper.wp
  simp [execOp, ho, resolve, invoke, builtin, hs, hx, hrun, Result.andThen]
  exact h v' w' h2 h3 h4
theorem wpList_app {ops : Array Oper} {rest : List Oper} {o : Oper} {a : Act} {Q : Exit → Act → World → Prop} (hgd : o.guard = none) (s x : Operand) (t : TypeId)
    (ho : o.op = .call { callee := .builtin .append, args := #[s, x], argTypes := #[t, t] })
    (base : Nat) (e : TypeId) (i : TypeInfo) (z : Value) (size bytes : Nat) (ht : P.underlying t = some (.slice e)) (hi : P.info? e = some i) (hz : i.zero = some z)
    (hsize : i.size = size) (hby : i.bytes = bytes) (hzs : z.cells.size = size) (hsz : 0 < size)
    (v : Value) (n : Nat) (xs : List Value) (hs : a.eval s = v) (hown : w.ownsRow base e size v n xs)
    (A : Option Addr) (m c : Nat) (news : List Value) (hx : a.eval x = .slice A m c) (hsrc : SrcAt w A m size news) (h1 : ∀ u ∈ news, u.oneCell' = true)
    (h63 : n + m ≤ maxLen) (hbytes : (n + m) * bytes ≤ 140737488355328) (hbase : base ≤ w.heap.size)
    (h : ∀ v' w', w'.ownsRow base e size v' (n + m) (xs ++ news) → w.grownBy w' v.ownBlock → (v'.ownBlock = v.ownBlock ∨ v'.ownBlock = some w.heap.size) → wpList P ops Q rest (a.put o.dst v') w') : wpList P ops Q (o :: rest) a w :=
  wpList_plain hgd fun _ hK => wp_app w s x t ho base e i z size bytes ht hi hz hsize hby hzs hsz v n xs hs hown A m c news hx hsrc h1 h63 hbytes hbase fun v' w' h2 h3 h4 => hK _ _ (h v' w' h2 h3 h4)
theorem step_app {ops : Array Oper} {o : Oper} {a : Act} {K : Act → World → Prop} {Q : Exit → Act → World → Prop} {E : Prop} (hgd : o.guard = none) (s x : Operand) (t : TypeId)
    (ho : o.op = .call { callee := .builtin .append, args := #[s, x], argTypes := #[t, t] })
    (base : Nat) (e : TypeId) (i : TypeInfo) (z : Value) (size bytes : Nat) (ht : P.underlying t = some (.slice e)) (hi : P.info? e = some i) (hz : i.zero = some z)
    (hsize : i.size = size) (hby : i.bytes = bytes) (hzs : z.cells.size = size) (hsz : 0 < size)
    (v : Value) (n : Nat) (xs : List Value) (hs : a.eval s = v) (hown : w.ownsRow base e size v n xs)
    (A : Option Addr) (m c : Nat) (news : List Value) (hx : a.eval x = .slice A m c) (hsrc : SrcAt w A m size news) (h1 : ∀ u ∈ news, u.oneCell' = true)
    (h63 : n + m ≤ maxLen) (hbytes : (n + m) * bytes ≤ 140737488355328) (hbase : base ≤ w.heap.size)
    (h : ∀ v' w', w'.ownsRow base e size v' (n + m) (xs ++ news) → w.grownBy w' v.ownBlock → (v'.ownBlock = v.ownBlock ∨ v'.ownBlock = some w.heap.size) → K (a.put o.dst v') w') :
    if Region.wanted o (yielded ops a.tmps) = true then Oper.wp P o a w K Q else E := by
  have hw : Region.wanted o (yielded ops a.tmps) = true := by simp [Region.wanted, hgd]
  rw [if_pos hw]
  exact wp_app w s x t ho base e i z size bytes ht hi hz hsize hby hzs hsz v n xs hs hown A m c news hx hsrc h1 h63 hbytes hbase h
end
end Go.Proofs.YtffibmlgdacafaaDoor.Im
namespace Go.Proofs.YtffibmlgdacafaaDoor.Im
open Go.RowKit Pl Ft Mm In C2

theorem SrcAt.lit (w : World) (ys : List Int) (cs : Array Value) (h : cs.toList = ints ys) (n : Nat) (hn : n = ys.length) : SrcAt (w.alloc (.cells cs 3)) (some ⟨w.heap.size, 0, none⟩) n 1 (ints ys) := by
  subst hn
  exact ⟨by simp [ints], .inr ⟨_, rfl, new_cells w cs _ _ h⟩⟩
theorem SrcAt.drew {w : World} {a : Option Addr} {m size : Nat} {news : List Value} (h : SrcAt w a m size news) : SrcAt w.drew a m size news := h
theorem SrcAt.on {w w' : World} {a : Option Addr} {m size : Nat} {news : List Value} (h : SrcAt w a m size news) (hb : ∀ p : Addr, p.block < w.heap.size → w'.cell? p = w.cell? p) : SrcAt w' a m size news := by
  refine ⟨h.1, ?_⟩
  rcases h.2 with h0 | ⟨ad, e, hc⟩
  · exact .inl h0
  · refine .inr ⟨ad, e, fun j u hu => ?_⟩
    have := hc j u hu
    rw [hb _ (World.block_lt_of_cell? _ _ this)]
    exact this
theorem SrcAt.at_ (w : World) (ys : List Int) (cs : Array Value) (H n : Nat) (h : cs.toList = ints ys) (hH : w.heap.size = H) (hn : n = ys.length) : SrcAt (w.alloc (.cells cs 3)) (some ⟨H, 0, none⟩) n 1 (ints ys) := by
  subst hH
  exact .lit w ys cs h n hn
/-- The row v of numbers has grown to v': these numbers; of what there was just its own block may have turned. -/
structure Grows (B : Nat) (xs : List Int) (v v' : Value) (w w' : World) : Prop where
  own : w'.ownsRow B 3 1 v' xs.length (ints xs)
  bel : Below B w w'
  far : ∀ g, g < w.heap.size → v.ownBlock ≠ some g → w'.heap[g]? = w.heap[g]?
  at_ : v'.ownBlock = v.ownBlock ∨ ∃ g, v'.ownBlock = some g ∧ w.heap.size ≤ g
theorem Grows.refl {B : Nat} {xs : List Int} {v : Value} {w : World} (h : w.ownsRow B 3 1 v xs.length (ints xs)) : Grows B xs v v w w := ⟨h, Below.refl _ _, fun _ _ _ => rfl, .inl rfl⟩
theorem Grows.trans {B : Nat} {xs ys : List Int} {v0 v1 v2 : Value} {w0 w1 w2 : World} (h : Grows B xs v0 v1 w0 w1) (k : Grows B ys v1 v2 w1 w2) : Grows B ys v0 v2 w0 w2 := by
  have hz : w0.heap.size ≤ w1.heap.size := h.bel.size
  refine ⟨k.own, h.bel.trans k.bel, fun g hg hne => ?_, ?_⟩
  · refine (k.far g (by omega) ?_).trans (h.far g hg hne)
    rcases h.at_ with e | ⟨g', e, hg'⟩
    · rw [e]; exact hne
    · rw [e]; intro e2; simp only [Option.some.injEq] at e2; omega
  · rcases k.at_ with e | ⟨g', e, hg'⟩
    · rw [e]
      exact h.at_
    · exact .inr ⟨g', e, by omega⟩
theorem Grows.more {B : Nat} {xs : List Int} {v0 v1 : Value} {w0 w1 w2 : World} (h : Grows B xs v0 v1 w0 w1) (hB : B ≤ w0.heap.size) (hb : Below w1.heap.size w1 w2) : Grows B xs v0 v1 w0 w2 := by
  have hz : w0.heap.size ≤ w1.heap.size := h.bel.size
  exact ⟨own_on h.own hb, h.bel.trans (hb.mono (by omega)), fun g hg hne => (hb.block g (by omega)).trans (h.far g hg hne), h.at_⟩
theorem Grows.row {B : Nat} {xs : List Int} {v0 v1 : Value} {w0 w1 : World} (h : Grows B xs v0 v1 w0 w1) {g : Nat} {t : TypeId} {cs : Array Value} (hr : Row w0 g t cs) (hne : v0.ownBlock ≠ some g) : Row w1 g t cs := (h.far g hr.lt hne).trans hr
theorem no_own {w : World} {g B n size : Nat} {t e : TypeId} {cs : Array Value} {v : Value} {xs : List Value} (hr : Row w g t cs) (h : w.ownsRow B e size v n xs) (hne : e ≠ t) : v.ownBlock ≠ some g := by
  intro hg
  rcases h.2 with ⟨rfl, _⟩ | ⟨g1, cap, cur, rfl, _, hh, _⟩
  · cases hg
  simp only [Value.ownBlock, Option.some.injEq] at hg
  subst hg
  unfold Row at hr
  rw [hr] at hh
  simp only [Option.some.injEq, Obj.cells.injEq] at hh
  exact hne hh.2.1.symm
theorem grows_of {B : Nat} {xs ys : List Int} {v v' : Value} {w w' : World} (hown : w.ownsRow B 3 1 v xs.length (ints xs)) (hB : B ≤ w.heap.size) (h : w'.ownsRow B 3 1 v' (xs.length + ys.length) (ints xs ++ ints ys)) (hg : w.grownBy w' v.ownBlock) (ha : v'.ownBlock = v.ownBlock ∨ v'.ownBlock = some w.heap.size) : Grows B (xs ++ ys) v v' w w' := by
  refine ⟨?_, (Below.refl B w).grown hg hB (fun g hg => (hown.lt g hg).1), fun g hlt hne => hg.block g hlt (fun e => hne e.symm), ?_⟩
  · rw [List.length_append, ints_append]
    exact h
  · rcases ha with e | e
    · exact .inl e
    · exact .inr ⟨_, e, Nat.le_refl _⟩
section
variable {ops : Array Oper} {rest : List Oper} {o : Oper} {a : Act} {Q : Exit → Act → World → Prop} (w : World)
theorem app_ints (hgd : o.guard = none) (s x : Operand)
    (ho : o.op = .call { callee := .builtin .append, args := #[s, x], argTypes := #[43, 43] })
    (B : Nat) (xs ys : List Int) (v : Value) (hs : a.eval s = v) (hown : w.ownsRow B 3 1 v xs.length (ints xs))
    (A : Option Addr) (m c : Nat) (hx : a.eval x = .slice A m c) (hm : m = ys.length) (hsrc : SrcAt w A m 1 (ints ys))
    (hl : xs.length + ys.length ≤ 1000000000) (hB : B ≤ w.heap.size)
    (h : ∀ v' w', Grows B (xs ++ ys) v v' w w' → wpList Tryd.prog ops Q rest (a.put o.dst v') w') : wpList Tryd.prog ops Q (o :: rest) a w := by
  obtain ⟨i0, hi, hz0, hz1, hz2⟩ := info_parts info_int
  subst hm
  exact wpList_app w hgd s x 43 ho B 3 i0 (.int .i64 0) 1 8 Tryd.underlying43 hi hz0 hz1 hz2 rfl (by decide) v xs.length (ints xs) hs hown A ys.length c (ints ys) hx hsrc (ints_one ys) (by simp only [maxLen]; omega) (by omega) hB
    (fun v' w' h1 h2 h3 => h v' w' (grows_of hown hB h1 h2 h3))
theorem stp_ints {K : Act → World → Prop} {E : Prop} (hgd : o.guard = none) (s x : Operand)
    (ho : o.op = .call { callee := .builtin .append, args := #[s, x], argTypes := #[43, 43] })
    (B : Nat) (xs ys : List Int) (v : Value) (hs : a.eval s = v) (hown : w.ownsRow B 3 1 v xs.length (ints xs))
    (A : Option Addr) (m c : Nat) (hx : a.eval x = .slice A m c) (hm : m = ys.length) (hsrc : SrcAt w A m 1 (ints ys))
    (hl : xs.length + ys.length ≤ 1000000000) (hB : B ≤ w.heap.size)
    (h : ∀ v' w', Grows B (xs ++ ys) v v' w w' → K (a.put o.dst v') w') : if Region.wanted o (yielded ops a.tmps) = true then Oper.wp Tryd.prog o a w K Q else E := by
  obtain ⟨i0, hi, hz0, hz1, hz2⟩ := info_parts info_int
  subst hm
  exact step_app w hgd s x 43 ho B 3 i0 (.int .i64 0) 1 8 Tryd.underlying43 hi hz0 hz1 hz2 rfl (by decide) v xs.length (ints xs) hs hown A ys.length c (ints ys) hx hsrc (ints_one ys) (by simp only [maxLen]; omega) (by omega) hB
    (fun v' w' h1 h2 h3 => h v' w' (grows_of hown hB h1 h2 h3))
end
theorem own_lit (w : World) (ys : List Int) (cs : Array Value) (h : cs.toList = ints ys) (hl : ys.length ≤ 1000) (n : Nat) (hn : n = ys.length) : (w.alloc (.cells cs 3)).ownsRow w.heap.size 3 1 (.slice (some ⟨w.heap.size, 0, none⟩) n n) ys.length (ints ys) := by
  subst hn
  rw [← h]
  have hs : cs.size = ys.length * 1 := by
    have := congrArg List.length h
    simp only [Array.length_toList, ints, List.length_map] at this
    omega
  exact World.ownsRow_lit (base := w.heap.size) (e := 3) (size := 1) w cs ys.length (Nat.le_refl _) (by simp only [maxLen]; omega) hs
end Go.Proofs.YtffibmlgdacafaaDoor.Im
