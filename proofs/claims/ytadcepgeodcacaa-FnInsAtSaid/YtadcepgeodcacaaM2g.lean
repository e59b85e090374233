/- M2g: several texts in one. -/
import Derived.Test.YtadcepgeodcacaaNm
import Derived.Maps.AppendAt
import Derived.Deep.RegionLaw
import Derived.Test.YtadcepgeodcacaaC2f
import Derived.Test.YtadcepgeodcacaaC2u
import Derived.Test.YtadcepgeodcacaaC2e
import Derived.Test.YtadcepgeodcacaaC2v
import Derived.Test.YtadcepgeodcacaaFormLem3
import Derived.Test.YtadcepgeodcacaaInts
import Derived.Test.YtadcepgeodcacaaDraw2
import Derived.Test.YtadcepgeodcacaaRead
import Derived.Test.YtadcepgeodcacaaC2m
import Derived.Test.YtadcepgeodcacaaIm4
import Derived.Deep.RegionWith
import Derived.Deep.DeepCutAuto
import Derived.RegionTactic
import Derived.BigRegion
import Derived.ChangeShapes
import Derived.ChangeSlices
import Derived.ChangeArms
import Derived.WideShapes
import Derived.Deep.Fields
import Derived.Deep.Slices
import Derived.DataReads
import Derived.Test.YtadcepgeodcacaaC2o
import Derived.Test.YtadcepgeodcacaaC2g
import Derived.Laws.StructEq
import Derived.Laws.IdiomStrings
import Derived.Laws.Concat
import Derived.StillTailTactics
/- append onto a row of one's own, from whatever slice: nil, empty or not. No program is spoken of here. -/
set_option linter.unusedSimpArgs false
set_option linter.unusedVariables false
namespace Go.Proofs.Ytadcepgeodcacaa.Im
open Go.RowKit Pl Ft Mm In C2

/-- m elements of so many cells each stand at an address: these cells. -/
def SrcAt (w : World) (a : Option Addr) (m size : Nat) (news : List Value) : Prop :=
  news.length = m * size ∧ (m = 0 ∨ ∃ ad, a = some ad ∧ ∀ j u, news[j]? = some u → w.cell? (ad.add j) = some u)
theorem SrcAt.of_rd {w : World} {a : Option Addr} {c : Nat} {xs : List Int} (h : Rd w (.slice a xs.length c) xs) : SrcAt w a xs.length 1 (ints xs) := by
  refine ⟨by simp [ints], ?_⟩
  obtain ⟨a', c', e, h⟩ := h
  simp only [Value.slice.injEq] at e
  obtain ⟨rfl, _, _⟩ := e
  rcases h with h | ⟨g, o, rfl, hg, hc⟩
  · exact .inl (by rw [h]; rfl)
  · refine .inr ⟨_, rfl, fun j u hu => ?_⟩
    have e : (⟨g, o, none⟩ : Addr).add j = ⟨g, o + j, none⟩ := by unfold Addr.add; split <;> simp_all
    have hj : j < xs.length := by have := (List.getElem?_eq_some_iff.1 hu).1; simpa [ints] using this
    rw [e, hc j hj]
    simp [ints, hj] at hu
    simp [hj, ← hu]
section
variable {P : Program} (w : World)
theorem run_app (base : Nat) (t ty e : TypeId) (i : TypeInfo) (z : Value) (size bytes : Nat) (ht : P.underlying t = some (.slice e)) (hi : P.info? e = some i) (hz : i.zero = some z)
    (hsize : i.size = size) (hby : i.bytes = bytes) (hzs : z.cells.size = size) (hsz : 0 < size)
    (v : Value) (n : Nat) (xs : List Value) (hown : w.ownsRow base e size v n xs)
    (a : Option Addr) (m c : Nat) (news : List Value) (hsrc : SrcAt w a m size news) (h1 : ∀ u ∈ news, u.oneCell' = true)
    (h63 : n + m ≤ maxLen) (hbytes : (n + m) * bytes ≤ 140737488355328) (hbase : base ≤ w.heap.size) :
    ∃ v' w', (Builtin.append_ #[t, t] ty #[v, .slice a m c]).run P w = .ok v' w' ∧ w'.ownsRow base e size v' (n + m) (xs ++ news) ∧ w.grownBy w' v.ownBlock ∧ (v'.ownBlock = v.ownBlock ∨ v'.ownBlock = some w.heap.size) := by
  cases a with
  | none =>
    have hm : m = 0 := by
      rcases hsrc.2 with h | ⟨ad, h, _⟩
      · exact h
      · cases h
    subst hm
    obtain rfl : news = [] := List.eq_nil_of_length_eq_zero (by simpa using hsrc.1)
    refine ⟨v, w, ?_, by simpa using hown, ⟨rfl, rfl, rfl, Nat.le_refl _, fun _ _ _ => rfl⟩, .inl rfl⟩
    rcases hown.2 with ⟨rfl, rfl⟩ | ⟨g, cap, cur, rfl, _, _, hnc, _⟩
    · simp [Builtin.append_, run_underlying ht, sizeOf, typeInfo, hi, Builtin.lenOf, Builtin.firstCells]
    · simp [Builtin.append_, run_underlying ht, sizeOf, typeInfo, hi, Builtin.lenOf, Builtin.firstCells, hnc, storeCells]
  | some ad =>
    have hcells : ∀ j u, news[j]? = some u → w.cell? (ad.add j) = some u := by
      rcases hsrc.2 with h | ⟨ad', h, hc⟩
      · subst h
        obtain rfl : news = [] := List.eq_nil_of_length_eq_zero (by simpa using hsrc.1)
        intro j u hu
        simp at hu
      · injection h with h
        subst h
        exact hc
    obtain ⟨v', w', hrun, h2, h3, _, h5⟩ := run_append_own_at (P := P) w base t ty e i z size bytes ht hi hz hsize hby hzs hsz v n xs hown ad m c news hsrc.1 hcells h1 h63 hbytes hbase
    exact ⟨v', w', hrun, h2, h3, h5⟩
theorem wp_app {o : Oper} {a : Act} {K : Act → World → Prop} {Q : Exit → Act → World → Prop} (s x : Operand) (t : TypeId)
    (ho : o.op = .call { callee := .builtin .append, args := #[s, x], argTypes := #[t, t] })
    (base : Nat) (e : TypeId) (i : TypeInfo) (z : Value) (size bytes : Nat) (ht : P.underlying t = some (.slice e)) (hi : P.info? e = some i) (hz : i.zero = some z)
    (hsize : i.size = size) (hby : i.bytes = bytes) (hzs : z.cells.size = size) (hsz : 0 < size)
    (v : Value) (n : Nat) (xs : List Value) (hs : a.eval s = v) (hown : w.ownsRow base e size v n xs)
    (A : Option Addr) (m c : Nat) (news : List Value) (hx : a.eval x = .slice A m c) (hsrc : SrcAt w A m size news) (h1 : ∀ u ∈ news, u.oneCell' = true)
    (h63 : n + m ≤ maxLen) (hbytes : (n + m) * bytes ≤ 140737488355328) (hbase : base ≤ w.heap.size)
    (h : ∀ v' w', w'.ownsRow base e size v' (n + m) (xs ++ news) → w.grownBy w' v.ownBlock → (v'.ownBlock = v.ownBlock ∨ v'.ownBlock = some w.heap.size) → K (a.put o.dst v') w') : o.wp P a w K Q := by
  obtain ⟨v', w', hrun, h2, h3, h4⟩ := run_app (P := P) w base t o.type e i z size bytes ht hi hz hsize hby hzs hsz v n xs hown A m c news hsrc h1 h63 hbytes hbase
  unfold Oper.wp
  simp [execOp, ho, resolve, invoke, builtin, hs, hx, hrun, Result.andThen]
  exact h v' w' h2 h3 h4
theorem wpList_app {ops : Array Oper} {rest : List Oper} {o : Oper} {a : Act} {Q : Exit → Act → World → Prop} (hgd : o.guard = none) (s x : Operand) (t : TypeId)
    (ho : o.op = .call { callee := .builtin .append, args := #[s, x], argTypes := #[t, t] })
    (base : Nat) (e : TypeId) (i : TypeInfo) (z : Value) (size bytes : Nat) (ht : P.underlying t = some (.slice e)) (hi : P.info? e = some i) (hz : i.zero = some z)
    (hsize : i.size = size) (hby : i.bytes = bytes) (hzs : z.cells.size = size) (hsz : 0 < size)
    (v : Value) (n : Nat) (xs : List Value) (hs : a.eval s = v) (hown : w.ownsRow base e size v n xs)
    (A : Option Addr) (m c : Nat) (news : List Value) (hx : a.eval x = .slice A m c) (hsrc : SrcAt w A m size news) (h1 : ∀ u ∈ news, u.oneCell' = true)
    (h63 : n + m ≤ maxLen) (hbytes : (n + m) * bytes ≤ 140737488355328) (hbase : base ≤ w.heap.size)
    (h : ∀ v' w', w'.ownsRow base e size v' (n + m) (xs ++ news) → w.grownBy w' v.ownBlock → (v'.ownBlock = v.ownBlock ∨ v'.ownBlock = some w.heap.size) → wpList P ops Q rest (a.put o.dst v') w') : wpList P ops Q (o :: rest) a w :=
  wpList_plain hgd fun _ hK => wp_app w s x t ho base e i z size bytes ht hi hz hsize hby hzs hsz v n xs hs hown A m c news hx hsrc h1 h63 hbytes hbase fun v' w' h2 h3 h4 => hK _ _ (h v' w' h2 h3 h4)
theorem step_app {ops : Array Oper} {o : Oper} {a : Act} {K : Act → World → Prop} {Q : Exit → Act → World → Prop} {E : Prop} (hgd : o.guard = none) (s x : Operand) (t : TypeId)
    (ho : o.op = .call { callee := .builtin .append, args := #[s, x], argTypes := #[t, t] })
    (base : Nat) (e : TypeId) (i : TypeInfo) (z : Value) (size bytes : Nat) (ht : P.underlying t = some (.slice e)) (hi : P.info? e = some i) (hz : i.zero = some z)
    (hsize : i.size = size) (hby : i.bytes = bytes) (hzs : z.cells.size = size) (hsz : 0 < size)
    (v : Value) (n : Nat) (xs : List Value) (hs : a.eval s = v) (hown : w.ownsRow base e size v n xs)
    (A : Option Addr) (m c : Nat) (news : List Value) (hx : a.eval x = .slice A m c) (hsrc : SrcAt w A m size news) (h1 : ∀ u ∈ news, u.oneCell' = true)
    (h63 : n + m ≤ maxLen) (hbytes : (n + m) * bytes ≤ 140737488355328) (hbase : base ≤ w.heap.size)
    (h : ∀ v' w', w'.ownsRow base e size v' (n + m) (xs ++ news) → w.grownBy w' v.ownBlock → (v'.ownBlock = v.ownBlock ∨ v'.ownBlock = some w.heap.size) → K (a.put o.dst v') w') :
    if Region.wanted o (yielded ops a.tmps) = true then Oper.wp P o a w K Q else E := by
  have hw : Region.wanted o (yielded ops a.tmps) = true := by simp [Region.wanted, hgd]
  rw [if_pos hw]
  exact wp_app w s x t ho base e i z size bytes ht hi hz hsize hby hzs hsz v n xs hs hown A m c news hx hsrc h1 h63 hbytes hbase h
end
end Go.Proofs.Ytadcepgeodcacaa.Im
/- append onto a row of numbers of one's own, in the program's own types. -/
namespace Go.Proofs.Ytadcepgeodcacaa.Im
open Go.RowKit Pl Ft Mm In C2

theorem SrcAt.lit (w : World) (ys : List Int) (cs : Array Value) (h : cs.toList = ints ys) (n : Nat) (hn : n = ys.length) : SrcAt (w.alloc (.cells cs 3)) (some ⟨w.heap.size, 0, none⟩) n 1 (ints ys) := by
  subst hn
  exact ⟨by simp [ints], .inr ⟨_, rfl, new_cells w cs _ _ h⟩⟩
theorem SrcAt.drew {w : World} {a : Option Addr} {m size : Nat} {news : List Value} (h : SrcAt w a m size news) : SrcAt w.drew a m size news := h
theorem SrcAt.on {w w' : World} {a : Option Addr} {m size : Nat} {news : List Value} (h : SrcAt w a m size news) (hb : ∀ p : Addr, p.block < w.heap.size → w'.cell? p = w.cell? p) : SrcAt w' a m size news := by
  refine ⟨h.1, ?_⟩
  rcases h.2 with h0 | ⟨ad, e, hc⟩
  · exact .inl h0
  · refine .inr ⟨ad, e, fun j u hu => ?_⟩
    have := hc j u hu
    rw [hb _ (World.block_lt_of_cell? _ _ this)]
    exact this
theorem SrcAt.at_ (w : World) (ys : List Int) (cs : Array Value) (H n : Nat) (h : cs.toList = ints ys) (hH : w.heap.size = H) (hn : n = ys.length) : SrcAt (w.alloc (.cells cs 3)) (some ⟨H, 0, none⟩) n 1 (ints ys) := by
  subst hH
  exact .lit w ys cs h n hn
/-- The row v of numbers has grown to v': these numbers; of what there was just its own block may have turned. -/
structure Grows (B : Nat) (xs : List Int) (v v' : Value) (w w' : World) : Prop where
  own : w'.ownsRow B 3 1 v' xs.length (ints xs)
  bel : Below B w w'
  far : ∀ g, g < w.heap.size → v.ownBlock ≠ some g → w'.heap[g]? = w.heap[g]?
  at_ : v'.ownBlock = v.ownBlock ∨ ∃ g, v'.ownBlock = some g ∧ w.heap.size ≤ g
theorem Grows.refl {B : Nat} {xs : List Int} {v : Value} {w : World} (h : w.ownsRow B 3 1 v xs.length (ints xs)) : Grows B xs v v w w := ⟨h, Below.refl _ _, fun _ _ _ => rfl, .inl rfl⟩
theorem Grows.trans {B : Nat} {xs ys : List Int} {v0 v1 v2 : Value} {w0 w1 w2 : World} (h : Grows B xs v0 v1 w0 w1) (k : Grows B ys v1 v2 w1 w2) : Grows B ys v0 v2 w0 w2 := by
  have hz : w0.heap.size ≤ w1.heap.size := h.bel.size
  refine ⟨k.own, h.bel.trans k.bel, fun g hg hne => ?_, ?_⟩
  · refine (k.far g (by omega) ?_).trans (h.far g hg hne)
    rcases h.at_ with e | ⟨g', e, hg'⟩
    · rw [e]; exact hne
    · rw [e]; intro e2; simp only [Option.some.injEq] at e2; omega
  · rcases k.at_ with e | ⟨g', e, hg'⟩
    · rw [e]
      exact h.at_
    · exact .inr ⟨g', e, by omega⟩
theorem Grows.more {B : Nat} {xs : List Int} {v0 v1 : Value} {w0 w1 w2 : World} (h : Grows B xs v0 v1 w0 w1) (hB : B ≤ w0.heap.size) (hb : Below w1.heap.size w1 w2) : Grows B xs v0 v1 w0 w2 := by
  have hz : w0.heap.size ≤ w1.heap.size := h.bel.size
  exact ⟨own_on h.own hb, h.bel.trans (hb.mono (by omega)), fun g hg hne => (hb.block g (by omega)).trans (h.far g hg hne), h.at_⟩
theorem Grows.row {B : Nat} {xs : List Int} {v0 v1 : Value} {w0 w1 : World} (h : Grows B xs v0 v1 w0 w1) {g : Nat} {t : TypeId} {cs : Array Value} (hr : Row w0 g t cs) (hne : v0.ownBlock ≠ some g) : Row w1 g t cs := (h.far g hr.lt hne).trans hr
theorem no_own {w : World} {g B n size : Nat} {t e : TypeId} {cs : Array Value} {v : Value} {xs : List Value} (hr : Row w g t cs) (h : w.ownsRow B e size v n xs) (hne : e ≠ t) : v.ownBlock ≠ some g := by
  intro hg
  rcases h.2 with ⟨rfl, _⟩ | ⟨g1, cap, cur, rfl, _, hh, _⟩
  · cases hg
  simp only [Value.ownBlock, Option.some.injEq] at hg
  subst hg
  unfold Row at hr
  rw [hr] at hh
  simp only [Option.some.injEq, Obj.cells.injEq] at hh
  exact hne hh.2.1.symm
theorem grows_of {B : Nat} {xs ys : List Int} {v v' : Value} {w w' : World} (hown : w.ownsRow B 3 1 v xs.length (ints xs)) (hB : B ≤ w.heap.size) (h : w'.ownsRow B 3 1 v' (xs.length + ys.length) (ints xs ++ ints ys)) (hg : w.grownBy w' v.ownBlock) (ha : v'.ownBlock = v.ownBlock ∨ v'.ownBlock = some w.heap.size) : Grows B (xs ++ ys) v v' w w' := by
  refine ⟨?_, (Below.refl B w).grown hg hB (fun g hg => (hown.lt g hg).1), fun g hlt hne => hg.block g hlt (fun e => hne e.symm), ?_⟩
  · rw [List.length_append, ints_append]
    exact h
  · rcases ha with e | e
    · exact .inl e
    · exact .inr ⟨_, e, Nat.le_refl _⟩
section
variable {ops : Array Oper} {rest : List Oper} {o : Oper} {a : Act} {Q : Exit → Act → World → Prop} (w : World)
theorem app_ints (hgd : o.guard = none) (s x : Operand)
    (ho : o.op = .call { callee := .builtin .append, args := #[s, x], argTypes := #[23, 23] })
    (B : Nat) (xs ys : List Int) (v : Value) (hs : a.eval s = v) (hown : w.ownsRow B 3 1 v xs.length (ints xs))
    (A : Option Addr) (m c : Nat) (hx : a.eval x = .slice A m c) (hm : m = ys.length) (hsrc : SrcAt w A m 1 (ints ys))
    (hl : xs.length + ys.length ≤ 1000000000) (hB : B ≤ w.heap.size)
    (h : ∀ v' w', Grows B (xs ++ ys) v v' w w' → wpList Try.prog ops Q rest (a.put o.dst v') w') : wpList Try.prog ops Q (o :: rest) a w := by
  obtain ⟨i0, hi, hz0, hz1, hz2⟩ := info_parts info_int
  subst hm
  exact wpList_app w hgd s x 23 ho B 3 i0 (.int .i64 0) 1 8 Try.underlying23 hi hz0 hz1 hz2 rfl (by decide) v xs.length (ints xs) hs hown A ys.length c (ints ys) hx hsrc (ints_one ys) (by simp only [maxLen]; omega) (by omega) hB
    (fun v' w' h1 h2 h3 => h v' w' (grows_of hown hB h1 h2 h3))
theorem stp_ints {K : Act → World → Prop} {E : Prop} (hgd : o.guard = none) (s x : Operand)
    (ho : o.op = .call { callee := .builtin .append, args := #[s, x], argTypes := #[23, 23] })
    (B : Nat) (xs ys : List Int) (v : Value) (hs : a.eval s = v) (hown : w.ownsRow B 3 1 v xs.length (ints xs))
    (A : Option Addr) (m c : Nat) (hx : a.eval x = .slice A m c) (hm : m = ys.length) (hsrc : SrcAt w A m 1 (ints ys))
    (hl : xs.length + ys.length ≤ 1000000000) (hB : B ≤ w.heap.size)
    (h : ∀ v' w', Grows B (xs ++ ys) v v' w w' → K (a.put o.dst v') w') : if Region.wanted o (yielded ops a.tmps) = true then Oper.wp Try.prog o a w K Q else E := by
  obtain ⟨i0, hi, hz0, hz1, hz2⟩ := info_parts info_int
  subst hm
  exact step_app w hgd s x 23 ho B 3 i0 (.int .i64 0) 1 8 Try.underlying23 hi hz0 hz1 hz2 rfl (by decide) v xs.length (ints xs) hs hown A ys.length c (ints ys) hx hsrc (ints_one ys) (by simp only [maxLen]; omega) (by omega) hB
    (fun v' w' h1 h2 h3 => h v' w' (grows_of hown hB h1 h2 h3))
end
theorem own_lit (w : World) (ys : List Int) (cs : Array Value) (h : cs.toList = ints ys) (hl : ys.length ≤ 1000) (n : Nat) (hn : n = ys.length) : (w.alloc (.cells cs 3)).ownsRow w.heap.size 3 1 (.slice (some ⟨w.heap.size, 0, none⟩) n n) ys.length (ints ys) := by
  subst hn
  rw [← h]
  have hs : cs.size = ys.length * 1 := by
    have := congrArg List.length h
    simp only [Array.length_toList, ints, List.length_map] at this
    omega
  exact World.ownsRow_lit (base := w.heap.size) (e := 3) (size := 1) w cs ys.length (Nat.le_refl _) (by simp only [maxLen]; omega) hs
end Go.Proofs.Ytadcepgeodcacaa.Im
/- Chapter 2's exact laws of InsOk and InsLong: the walks. -/
namespace Go.Proofs.Ytadcepgeodcacaa.C2
open Go.RowKit Pl Ft Mm

end Go.Proofs.Ytadcepgeodcacaa.C2
/- The model's InsPut; the exact law of InsPut: the walk. -/
namespace Go.Proofs.Ytadcepgeodcacaa.C2
open Go.RowKit Pl Ft Mm In

theorem insPut_len {i : IIns} {at_ : Int} {l : List Int} (h : insPut i at_ = some l) : l.length ≤ 5 := by
  unfold insPut at h
  cases hf : formOf i with
  | none => rw [hf] at h; cases h
  | some f =>
    rw [hf] at h
    simp only at h
    split at h
    · split at h
      · have hs := (form_bounds hf).size
        simp only [Option.some.injEq] at h
        have h1 := putList_len (letters f.follows) i (at_ + longOf (letters f.follows))
        have h2 := longOf_bd (letters f.follows)
        rw [letters_len] at h2
        rw [← h]
        simp only [List.length_cons]
        omega
      · cases h
    · cases h
/-- What InsPut answers reads as a list. -/
theorem PutPost.reads {o : Option (List Int)} {w w' : World} {v : Value} (hnil : o = none → v = .slice none 0 0) (hown : ∀ l, o = some l → w'.ownsRow w.heap.size 3 1 v l.length (ints l)) : w'.ownsRow w.heap.size 3 1 v (o.getD []).length (ints (o.getD [])) := by
  cases o with
  | none => rw [hnil rfl]; exact World.ownsRow_nil _ _ _ _
  | some l => exact hown l rfl
end Go.Proofs.Ytadcepgeodcacaa.C2
/- The draw of InsAt: bytes, DrawInsAt. -/
namespace Go.Proofs.Ytadcepgeodcacaa.Src
open Go.RowKit Pl Ft Mm C2 In Im

theorem Src.below {sb B : Nat} {a : Option Addr} {len cap : Nat} {zs : List Int} {k : Int} {w w' : World} (h : Src w sb a len cap zs k) (hb : Below B w w') (hB : sb < B) : Src w' sb a len cap zs k := by
  refine ⟨?_, ?_, ?_, h.lo, ⟨h.bytes.small, ?_, h.bytes.range⟩, h.apart, Nat.lt_of_lt_of_le h.here hb.size⟩
  · rw [hb.cell (p := ⟨sb, 0, none⟩) hB]; exact h.code
  · rw [hb.cell (p := ⟨sb, 1, none⟩) hB]; exact h.at_
  · rw [hb.frozen (p := ⟨sb, 1, none⟩) hB]; exact h.free
  · rcases h.bytes.cells with h0 | ⟨b, o, e, hlt, hc⟩
    · exact .inl h0
    · by_cases hl : len = 0
      · exact .inl hl
      · have hbs := h.apart b o e (by omega)
        refine .inr ⟨b, o, e, Nat.lt_of_lt_of_le hlt hb.size, fun i hi => ?_⟩
        rw [hb.cell (p := ⟨b, o + i, none⟩) (show b < B by omega)]
        exact hc i hi
theorem Moved.grow {sb B : Nat} {a w w' : World} (h : Moved sb a w) (hb : Below B w w') (hB : a.heap.size ≤ B) : Moved sb a w' :=
  ⟨hb.os.trans h.os, hb.tape.trans h.tape, hb.output.trans h.output, Nat.le_trans h.size hb.size, fun k hk hn => (hb.block k (by omega)).trans (h.block k hk hn)⟩
theorem own_moved {sb : Nat} {w w' : World} {base : Nat} {e : TypeId} {size : Nat} {v : Value} {n : Nat} {xs : List Value} (h : w.ownsRow base e size v n xs) (hv : sb < base) (m : Moved sb w w') : w'.ownsRow base e size v n xs := by
  refine ⟨h.1, ?_⟩
  rcases h.2 with h0 | ⟨g, cap, cur, rfl, hg, hr, hrest⟩
  · exact .inl h0
  · exact .inr ⟨g, cap, cur, rfl, hg, (m.block g (Array.getElem?_eq_some_iff.1 hr).1 (by omega)).trans hr, hrest⟩
theorem sput_len {i : IIns} {at_ : Int} (hv : validIns i = true) (h0 : 0 ≤ at_) (h1 : at_ ≤ 1999) : ((sput i at_).getD []).length ≤ 5 := by
  have h := sput_eq i at_
  have hin : inRange at_ 0 1999 = true := by simp [inRange]; omega
  rw [hv, hin] at h
  have e : sput i at_ = insPut i at_ := by rw [← h]; rfl
  cases ho : sput i at_ with
  | none => simp
  | some l => exact insPut_len (by rw [← e]; exact ho)
/-- The rounds of bytes. -/
structure BytesRel (w : World) (sb : Nat) (a : Option Addr) (len cap : Nat) (zs : List Int) (k : Int) (j : Int) (v : Value) (xs : List Int) (wr : World) : Prop where
  own : wr.ownsRow w.heap.size 3 1 v xs.length (ints xs)
  j0 : -1 ≤ j
  j1 : j ≤ 13
  xlen : (xs.length : Int) ≤ 5 * (13 - j)
  src : ∃ k' : Int, k ≤ k' ∧ k' ≤ k + 2 + 30 * (13 - j) ∧ Src wr sb a len cap zs k'
  mov : Moved sb w wr
def GotBytes (sb : Nat) (a : Option Addr) (len cap : Nat) (zs : List Int) (k : Int) (w : World) (e : Ending) (w' : World) : Prop :=
  ∃ (v : Value) (xs : List Int) (k' : Int), e = .returned v ∧ w'.ownsRow w.heap.size 3 1 v xs.length (ints xs) ∧ 1 ≤ xs.length ∧ xs.length ≤ 100 ∧ k ≤ k' ∧ k' ≤ k + 500 ∧ Src w' sb a len cap zs k' ∧ Moved sb w w'
set_option maxRecDepth 100000 in
set_option maxHeartbeats 2000000 in
theorem bytes_c (sb : Nat) (a : Option Addr) (len cap : Nat) (zs : List Int) (k : Int) (w : World) (h : Src w sb a len cap zs k) (hk : k ≤ 999990000) :
    Calls Try.prog 25 #[.pointer (some ⟨sb, 0, none⟩)] w (GotBytes sb a len cap zs k w) := by
  have HS := hid h
  have hsb := h.here
  have HS0 := hid (h.alloc (.cells #[] 3))
  have HM0 := hid ((Moved.refl sb w).alloc (.cells #[] 3))
  have HL0 := hid (own_lit w [] #[] rfl (by simp) 0 rfl)
  clear h
  go_enter Try.func25, Try.ntmps25
  go_wp2_with fail
  refine (pick_c 14 sb a len cap zs k _ HS0.out (by omega) (by omega)).mono ?_
  rintro e w1 ⟨v1, k1, rfl, ⟨hv1, hv1'⟩, hk1, hk1', s1, m1⟩
  have HR1 := hid (show BytesRel w sb a len cap zs k v1 (.slice (some ⟨w.heap.size, 0, none⟩) 0 0) [] w1 from
    ⟨own_moved HL0.out hsb m1, by omega, by omega, by simp; omega, ⟨k1, hk1, by omega, s1⟩, HM0.out.trans m1⟩)
  clear s1 m1
  go_wp2_with fail
  go_loopw [3, 4] (fun v c wr => ∃ (j : Int) (xs : List Int), c = .int .i64 j ∧ BytesRel w sb a len cap zs k j v xs wr) (fun _ c _ => (intOf c + 1).toNat)
  case atStart => exact ⟨v1, [], rfl, HR1.out⟩
  case round =>
    obtain ⟨j, xs, rfl, hrel⟩ := hrel
    have HR := hid hrel
    have hj0 := hrel.j0
    have hj1 := hrel.j1
    have hxl := hrel.xlen
    have hzr := hrel.mov.size
    obtain ⟨k2, hk2, hk2', s2⟩ := hrel.src
    have HS2 := hid s2
    clear hrel s2 HR1
    by_cases hj : 0 ≤ j
    · go_wp2_with fail
      refine (pick_c 4 sb a len cap zs k2 _ HS2.out (by omega) (by omega)).mono ?_
      rintro e w3 ⟨v3, k3, rfl, ⟨hv3, hv3'⟩, hk3, hk3', s3, m3⟩
      have HS3 := hid s3
      have HO3 := hid (own_moved HR.out.own hsb m3)
      have HM3 := hid (HR.out.mov.trans m3)
      have hz3 := m3.size
      clear s3 m3
      by_cases hv : v3 = 0
      · subst hv
        go_wp2_with fail
        refine (pick_c 256 sb a len cap zs k3 _ HS3.out (by omega) (by omega)).mono ?_
        rintro e w4 ⟨v4, k4, rfl, ⟨hv4, hv4'⟩, hk4, hk4', s4, m4⟩
        have HS4 := hid s4
        have HO4 := hid (own_moved HO3.out hsb m4)
        have HM4 := hid (HM3.out.trans m4)
        have hz4 := m4.size
        clear s4 m4
        go_wp2_with (at_builtin; refine app_ints _ rfl _ _ rfl w.heap.size xs [v4] _ rfl (HO4.out.alloc _) _ _ _ rfl rfl (SrcAt.at_ _ [v4] #[.int .i64 v4] _ 1 rfl (by simp) rfl) (by simp; omega) (by simp; omega) ?_)
        intro v5 w5 hg5
        have HR5 := hid (show BytesRel w sb a len cap zs k (j - 1) v5 (xs ++ [v4]) w5 from
          ⟨hg5.own, by omega, by omega, by rw [List.length_append]; simp; omega, ⟨k4, by omega, by omega, (HS4.out.alloc _).below hg5.bel hsb⟩, (HM4.out.alloc _).grow hg5.bel (Nat.le_refl _)⟩)
        clear hg5
        go_wp2_with fail
        go_roundw
        case rel => exact ⟨j - 1, xs ++ [v4], by go_num, HR5.out⟩
        case measure => simp [intOf]; omega
      · have hv' : (v3 == 0) = false := by simpa using hv
        go_wp2_with fail
        refine (pick_c 31 sb a len cap zs k3 _ HS3.out (by omega) (by omega)).mono ?_
        rintro e w4 ⟨v4, k4, rfl, ⟨hv4, hv4'⟩, hk4, hk4', s4, m4⟩
        have HS4 := hid s4
        have HO4 := hid (own_moved HO3.out hsb m4)
        have HM4 := hid (HM3.out.trans m4)
        have hz4 := m4.size
        clear s4 m4
        obtain ⟨sx, cx, rfl⟩ := own_slice HO4.out
        go_wp2_with fail
        refine (ins_c v4 xs.length hv4 (by omega) (by omega) (by omega) sb a len cap zs k4 _ HS4.out (by omega)).mono ?_
        rintro e w5 ⟨i, k5, rfl, ⟨hsm, hop, hval⟩, hk5, hk5', s5, m5⟩
        have HV := hid (hval (by omega))
        have HS5 := hid s5
        have HO5 := hid (own_moved HO4.out hsb m5)
        have HM5 := hid (HM4.out.trans m5)
        have hz5 := m5.size
        clear s5 m5 hsm hop hval
        go_wp2_with fail
        refine (put_c i xs.length HV.out (by omega) (by omega) _).mono ?_
        rintro e w6 ⟨v6, rfl, hb6, hnil, hown⟩
        have hpl := sput_len (i := i) (at_ := (xs.length : Int)) HV.out (by omega) (by omega)
        obtain ⟨o, ho⟩ : ∃ o, sput i (xs.length : Int) = o := ⟨_, rfl⟩
        rw [ho] at hnil hown hpl ⊢
        have HP6 := hid (PutPost.reads hnil hown)
        have HS6 := hid (HS5.out.on hb6)
        have HO6 := hid (own_on HO5.out hb6)
        have HM6 := hid (HM5.out.on hb6)
        have hz6 := hb6.size
        clear hb6 hnil hown ho
        cases o with
        | none =>
          have HR7 := hid (show BytesRel w sb a len cap zs k (j - 1) (.slice sx xs.length cx) xs w6 from
            ⟨HO6.out, by omega, by omega, by omega, ⟨k5, by omega, by omega, HS6.out⟩, HM6.out⟩)
          go_wp2_with fail
          go_roundw
          case rel => exact ⟨j - 1, xs, by go_num, HR7.out⟩
          case measure => simp [intOf]; omega
        | some l =>
          simp only [Option.getD_some] at HP6 hpl
          obtain ⟨sl, cl, rfl⟩ := own_slice HP6.out
          have HSr := hid (SrcAt.of_rd (.of_own HP6.out))
          go_wp2_with (at_builtin; refine app_ints _ rfl _ _ rfl w.heap.size xs l _ rfl HO6.out _ _ _ rfl rfl HSr.out (by omega) (by omega) ?_)
          intro v7 w7 hg7
          have HR7 := hid (show BytesRel w sb a len cap zs k (j - 1) v7 (xs ++ l) w7 from
            ⟨hg7.own, by omega, by omega, by rw [List.length_append]; omega, ⟨k5, by omega, by omega, HS6.out.below hg7.bel hsb⟩, HM6.out.grow hg7.bel (Nat.le_refl _)⟩)
          clear hg7
          go_wp2_with fail
          go_roundw
          case rel => exact ⟨j - 1, xs ++ l, by go_num, HR7.out⟩
          case measure => simp [intOf]; omega
    · go_wp2_with fail
      refine (pick_c 2 sb a len cap zs k2 _ HS2.out (by omega) (by omega)).mono ?_
      rintro e w3 ⟨v3, k3, rfl, ⟨hv3, hv3'⟩, hk3, hk3', s3, m3⟩
      have HS3 := hid s3
      have HO3 := hid (own_moved HR.out.own hsb m3)
      have HM3 := hid (HR.out.mov.trans m3)
      have hz3 := m3.size
      clear s3 m3
      go_wp2_with (at_builtin; refine app_ints _ rfl _ _ rfl w.heap.size xs [v3] _ rfl (HO3.out.alloc _) _ _ _ rfl rfl (SrcAt.at_ _ [v3] #[.int .i64 v3] _ 1 rfl (by simp) rfl) (by simp; omega) (by simp; omega) ?_)
      intro v5 w5 hg5
      have HG := hid hg5.own
      have HSe := hid ((HS3.out.alloc (.cells #[.int .i64 v3] 3)).below hg5.bel hsb)
      have HMe := hid ((HM3.out.alloc (.cells #[.int .i64 v3] 3)).grow hg5.bel (Nat.le_refl _))
      clear hg5
      go_wp2_with fail
      go_ret
      exact ⟨_, xs ++ [v3], k3, rfl, HG.out, by simp, by rw [List.length_append]; simp; omega, by omega, by omega, HSe.out, HMe.out⟩
theorem drawInsAt_c (a : Option Addr) (len cap : Nat) (zs : List Int) (w : World) (hB : Bytes w a len zs) :
    Calls Try.prog 6 #[.slice a len cap] w fun e w' => ∃ (v : Value) (xs : List Int) (at_ : Int), e = .returned (.tuple #[v, .int .i64 at_]) ∧ w'.ownsRow w.heap.size 3 1 v xs.length (ints xs) ∧ xs.length ≤ 100 ∧ -2 ≤ at_ ∧ at_ ≤ 100 ∧ Below w.heap.size w w' := by
  have H := hid hB
  clear hB
  go_enter Try.func6, Try.ntmps6
  go_wp2_with fail
  refine (from_c a len cap zs w H.out).mono ?_
  rintro e w1 ⟨sb, rfl, hsb, s1, b1⟩
  have S1 := hid s1
  have B1 := hid b1
  clear s1 b1
  go_wp2_with fail
  refine (bytes_c sb a len cap zs 0 w1 S1.out (by omega)).mono ?_
  rintro e w2 ⟨v, xs, k2, rfl, hown, hx1, hx2, hk2, hk2', s2, m2⟩
  obtain ⟨sx, cx, rfl⟩ := own_slice hown
  have S2 := hid s2
  have hsb1 := S1.out.here
  have HO2 := hid hown
  have B2 := hid (m2.below B1.out hsb B1.out.size)
  have hz2 := m2.size
  clear s2 m2 hown
  go_wp2_with fail
  refine (pick_c xs.length sb a len cap zs k2 w2 S2.out (by omega) (by omega)).mono ?_
  rintro e w3 ⟨v3, k3, rfl, ⟨hv3, hv3'⟩, hk3, hk3', s3, m3⟩
  have S3 := hid s3
  have HO3 := hid (own_moved HO2.out hsb1 m3)
  have hz3 := m3.size
  have B3 := hid (m3.below B2.out hsb B2.out.size)
  clear s3 m3
  go_wp2_with fail
  refine (pick_c 20 sb a len cap zs k3 w3 S3.out (by omega) (by omega)).mono ?_
  rintro e w4 ⟨v4, k4, rfl, ⟨hv4, hv4'⟩, hk4, hk4', s4, m4⟩
  have HO4 := hid (own_moved HO3.out hsb1 m4)
  have B4 := hid (m4.below B3.out hsb B3.out.size)
  clear s4 m4
  go_wp2_with fail
  go_ret2
  exact ⟨_, xs, _, rfl, own_mono HO4.out B1.out.size, hx2, by omega, by omega, B4.out⟩
end Go.Proofs.Ytadcepgeodcacaa.Src
/- What was put is read again. No call is spoken of here. -/
namespace Go.Proofs.Ytadcepgeodcacaa.C2
open Go.RowKit Pl Ft Mm In

def addRange (f : IForm) : Int := if f.added = 1 then f.a else if f.added = 2 then f.b else 0
def onlyFirst (k v : Nat) : Bool := !(inR (addRange (tab.getD k .none)) v) || ((List.range k).all (fun j => !(begunOk (tab.getD j .none) ((tab.getD k .none).first + v))) && begunOk (tab.getD k .none) ((tab.getD k .none).first + v))
theorem onlyFirst_all : ∀ k, k < 33 → ∀ v, v < 9 → onlyFirst k v = true := by decide +kernel
def addOf (f : IForm) (i : IIns) : Int := if f.added = 1 then i.a else if f.added = 2 then i.b else 0
theorem firstByte_eq (f : IForm) (i : IIns) : firstByte f i = f.first + addOf f i := by
  unfold firstByte addOf
  (repeat' split) <;> omega
theorem add_bd : ∀ k, k < 33 → 0 ≤ lo (addRange (tab.getD k .none)) ∧ hi (addRange (tab.getD k .none)) < 9 := by decide +kernel
theorem formAt_first {f : IForm} {i : IIns} (hf : f ∈ tab) (ht : takes f i = true) : formAt (firstByte f i) = some f := by
  obtain ⟨k, hk, ek⟩ := tab_at hf
  have ht' := takes_iff.1 ht
  have hr : inR (addRange f) (addOf f i) = true := by
    unfold addRange addOf
    by_cases h1 : f.added = 1
    · rw [if_pos h1, if_pos h1]; simp [inR, ht'.2.1.1, ht'.2.1.2]
    · rw [if_neg h1, if_neg h1]
      by_cases h2 : f.added = 2
      · rw [if_pos h2, if_pos h2]; simp [inR, ht'.2.2.1.1, ht'.2.2.1.2]
      · rw [if_neg h2, if_neg h2]; decide
  have hb := add_bd k hk
  rw [ek] at hb
  have hr2 : lo (addRange f) ≤ addOf f i ∧ addOf f i ≤ hi (addRange f) := by simpa [inR] using hr
  obtain ⟨v, hv⟩ := Int.eq_ofNat_of_zero_le (show 0 ≤ addOf f i by omega)
  have ho := onlyFirst_all k hk v (by omega)
  unfold onlyFirst at ho
  rw [ek, ← hv, hr] at ho
  simp only [Bool.not_true, Bool.false_or, Bool.and_eq_true, List.all_eq_true, List.mem_range, Bool.not_eq_true'] at ho
  rw [firstByte_eq]
  have := find_at (begunOk · (f.first + addOf f i)) .none tab k (by rw [tab_len]; exact hk) ho.1 (by rw [ek]; exact ho.2)
  rw [ek] at this
  exact this
theorem begun_first (f : IForm) (i : IIns) : begunIns f (firstByte f i) = ⟨f.op, if f.added = 1 then i.a else lo f.a, if f.added = 2 then i.b else 0, 0⟩ := by
  rw [firstByte_eq]
  unfold begunIns addOf
  by_cases h1 : f.added = 1
  · have h2 : ¬ f.added = 2 := by omega
    have e : f.first + i.a - f.first = i.a := by omega
    simp only [h1, if_true, e]
    rfl
  · by_cases h2 : f.added = 2
    · have e : f.first + i.b - f.first = i.b := by omega
      simp [h2, e]
    · simp only [h1, h2, if_false]
/-- What is read of the bytes of a letter. -/
def backNum (c : Nat) (i : IIns) (next : Int) : Int := if c = 119 then letterNum c i next % 65536 else letterNum c i next % 256
theorem back_num (c : Nat) (i : IIns) (next : Int) : numIn (letterPut i next c) = backNum c i next := by
  unfold letterPut backNum
  by_cases h : c = 119
  · have e : (letterLong c).toNat = 2 := by rw [h]; rfl
    rw [if_pos h, e, bytes2]
    simp only [numIn]
    omega
  · have e : (letterLong c).toNat = 1 := by unfold letterLong; rw [if_neg h]; rfl
    rw [if_neg h, e, bytes1]
    simp only [numIn]
    omega
theorem rfold_back (i : IIns) (next : Int) : ∀ (l : List Nat) (A C : List Int) (j : IIns),
    (rfold (A ++ putList l i next ++ C) next j A.length l).1 = l.foldl (fun j c => letterWith c j (backNum c i next) next) j := by
  intro l
  induction l with
  | nil => intro A C j; rfl
  | cons c l ih =>
    intro A C j
    have hl : (letterPut i next c).length = (letterLong c).toNat := by rw [letterPut, bytesOf_len]
    have hcut : ((A ++ putList (c :: l) i next ++ C).drop A.length).take (letterLong c).toNat = letterPut i next c := by
      have e : A ++ putList (c :: l) i next ++ C = A ++ (letterPut i next c ++ (putList l i next ++ C)) := by simp [putList]
      rw [e, List.drop_left, ← hl, List.take_left]
    have e1 : rfold (A ++ putList (c :: l) i next ++ C) next j A.length (c :: l) = rfold (A ++ putList (c :: l) i next ++ C) next (letterWith c j (backNum c i next) next) (A.length + (letterLong c).toNat) l := by
      show rfold (A ++ putList (c :: l) i next ++ C) next (rstep (A ++ putList (c :: l) i next ++ C) next (j, A.length) c).1 (rstep (A ++ putList (c :: l) i next ++ C) next (j, A.length) c).2 l = _
      unfold rstep
      simp only
      rw [hcut, back_num]
    have e2 : A ++ putList (c :: l) i next ++ C = (A ++ letterPut i next c) ++ putList l i next ++ C := by simp [putList]
    have e3 : A.length + (letterLong c).toNat = (A ++ letterPut i next c).length := by rw [List.length_append, hl]
    rw [e1, e2, e3, ih]
    rfl
theorem fold_same {i : IIns} {f : IForm} (hf : f ∈ tab) (ht : takes f i = true) (next : Int) (hfit : ∀ c ∈ letters f.follows, letterFit c i next = true) :
    (letters f.follows).foldl (fun j c => letterWith c j (backNum c i next) next) ⟨f.op, if f.added = 1 then i.a else lo f.a, if f.added = 2 then i.b else 0, 0⟩ = i := by
  have h := takes_iff.1 ht
  clear ht
  obtain ⟨op, a, b, n⟩ := i
  have key : ∀ f ∈ tab, op = f.op → (lo f.a ≤ a ∧ a ≤ hi f.a) → (lo f.b ≤ b ∧ b ≤ hi f.b) → (lo f.n ≤ n ∧ n ≤ hi f.n) → (∀ c ∈ letters f.follows, letterFit c ⟨op, a, b, n⟩ next = true) →
      (letters f.follows).foldl (fun j c => letterWith c j (backNum c ⟨op, a, b, n⟩ next) next) ⟨f.op, if f.added = 1 then a else lo f.a, if f.added = 2 then b else 0, 0⟩ = ⟨op, a, b, n⟩ := by
    clear h hfit hf
    intro f hm
    simp only [tab, List.mem_cons, List.not_mem_nil, or_false] at hm
    rcases hm with rfl | rfl | rfl | rfl | rfl | rfl | rfl | rfl | rfl | rfl | rfl | rfl | rfl | rfl | rfl | rfl | rfl | rfl | rfl | rfl | rfl | rfl | rfl | rfl | rfl | rfl | rfl | rfl | rfl | rfl | rfl | rfl | rfl
    all_goals
      intro hop ha hb hn hfit
      simp [lo, hi] at ha hb hn
      simp [letters, letterFit, inR, lo, hi] at hfit
      simp only at hop
      subst hop
      simp [letters, letterWith, backNum, letterNum, sgn, inR, lo, hi]
      try omega
  exact key f hf h.1 h.2.1 h.2.2.1 h.2.2.2 hfit
theorem put_back {i : IIns} {at_ : Nat} {l pre : List Int} (h : insPut i at_ = some l) (hp : pre.length = at_) : insIn (pre ++ l) at_ = some i := by
  unfold insPut at h
  cases hf : formOf i with
  | none => rw [hf] at h; cases h
  | some f =>
    rw [hf] at h
    simp only at h
    split at h
    · split at h
      · rename_i _ hfit
        simp only [Option.some.injEq] at h
        obtain ⟨hm, ht⟩ := formOf_mem hf
        have hx : (pre ++ l).getD at_ 0 = firstByte f i := by rw [← h, ← hp]; simp
        have hrd : insRd (pre ++ l) at_ f = i := by
          unfold insRd
          rw [hx, begun_first]
          have e : pre ++ l = (pre ++ [firstByte f i]) ++ putList (letters f.follows) i (at_ + longOf (letters f.follows)) ++ [] := by rw [← h]; simp
          have e2 : at_ + 1 = (pre ++ [firstByte f i]).length := by simp [hp]
          rw [e, e2, rfold_back]
          exact fold_same hm ht _ (fun c hc => List.all_eq_true.1 hfit c hc)
        have hlen : (at_ : Int) + longOf (letters f.follows) ≤ (pre ++ l).length := by
          have h1 := putList_len (letters f.follows) i (at_ + longOf (letters f.follows))
          rw [← h, List.length_append, List.length_cons, hp]
          omega
        unfold insIn
        rw [hx, formAt_first hm ht]
        simp only
        rw [hrd, ht, decide_eq_true hlen]
        rfl
      · cases h
    · cases h
end Go.Proofs.Ytadcepgeodcacaa.C2
/- What InsAt reads of what was put behind zeros. No call is spoken of here. -/
namespace Go.Proofs.Ytadcepgeodcacaa.C2
open Go.RowKit Pl Ft Mm In

theorem byte_iff {x : Int} : isByte x = true ↔ 0 ≤ x ∧ x ≤ 255 := by simp [isByte, inR, lo, hi]
theorem first_bd : ∀ k, k < 33 → 0 ≤ (tab.getD k .none).first + lo (addRange (tab.getD k .none)) ∧ (tab.getD k .none).first + hi (addRange (tab.getD k .none)) ≤ 255 := by decide +kernel
theorem first_byte {f : IForm} {i : IIns} (hf : f ∈ tab) (ht : takes f i = true) : isByte (firstByte f i) = true := by
  obtain ⟨k, hk, ek⟩ := tab_at hf
  have ht' := takes_iff.1 ht
  have hb := first_bd k hk
  rw [ek] at hb
  have hr2 : lo (addRange f) ≤ addOf f i ∧ addOf f i ≤ hi (addRange f) := by
    unfold addRange addOf
    by_cases h1 : f.added = 1
    · rw [if_pos h1, if_pos h1]; exact ht'.2.1
    · rw [if_neg h1, if_neg h1]
      by_cases h2 : f.added = 2
      · rw [if_pos h2, if_pos h2]; exact ht'.2.2.1
      · rw [if_neg h2, if_neg h2]; decide
  rw [byte_iff, firstByte_eq]
  omega
theorem put_bytes {i : IIns} {at_ : Int} {l : List Int} (h : insPut i at_ = some l) : l.all isByte = true := by
  unfold insPut at h
  cases hf : formOf i with
  | none => rw [hf] at h; cases h
  | some f =>
    rw [hf] at h
    simp only at h
    split at h
    · split at h
      · simp only [Option.some.injEq] at h
        obtain ⟨hm, ht⟩ := formOf_mem hf
        rw [← h, List.all_cons, first_byte hm ht, Bool.true_and, List.all_eq_true]
        intro y hy
        obtain ⟨c, _, hy⟩ := List.mem_flatMap.1 hy
        obtain ⟨j, _, rfl⟩ := List.mem_map.1 hy
        exact byte_iff.2 (by omega)
      · cases h
    · cases h
theorem insAt_put {i : IIns} {at_ : Nat} {l : List Int} (h : insPut i at_ = some l) (hl0 : 0 < l.length) (hlen : at_ + l.length ≤ 2000) : insAt (List.replicate at_ 0 ++ l) at_ = some i := by
  have hp : (List.replicate at_ (0 : Int)).length = at_ := List.length_replicate
  have hz : (List.replicate at_ (0 : Int)).all isByte = true := by
    rw [List.all_eq_true]
    intro x hx
    rw [(List.mem_replicate.1 hx).2]
    rfl
  have hc : isCode (List.replicate at_ 0 ++ l) = true := by
    unfold isCode
    rw [List.all_append, hz, put_bytes h, decide_eq_true (by rw [List.length_append, hp]; omega)]
    rfl
  have hlt : ((at_ : Int)) < ((List.replicate at_ (0 : Int) ++ l).length : Nat) := by rw [List.length_append, hp]; omega
  unfold insAt
  rw [hc, decide_eq_true (by omega : (0 : Int) ≤ at_), decide_eq_true hlt, if_pos (by decide), Int.toNat_natCast]
  exact put_back h hp
theorem jump_near {i : IIns} {f : IForm} (hf : formOf i = some f) (hj : isJump i = true) : ∀ c ∈ letters f.follows, letterFit c i (i.n + longOf (letters f.follows)) = true := by
  obtain ⟨hm, ht⟩ := formOf_mem hf
  intro c hc
  have hs := (tab_letters f hm).2
  have hb := longOf_bd (letters f.follows)
  rw [letters_len] at hb
  unfold letterFit
  split
  · simp [inR, lo, hi]; omega
  · rfl
theorem tab_near : ∀ k, k < 33 → ∀ c ∈ letters (tab.getD k .none).follows, c = 110 → (tab.getD k .none).op = 27 ∨ (tab.getD k .none).op = 28 := by decide +kernel
theorem put_exists {i : IIns} {at_ : Int} (hv : validIns i = true) (h0 : 0 ≤ at_) (h1 : at_ ≤ 1999) (hj : isJump i = true → at_ = i.n) : ∃ l, insPut i at_ = some l := by
  have hs := some_valid i
  rw [hv] at hs
  obtain ⟨f, hf⟩ := Option.isSome_iff_exists.1 hs
  obtain ⟨hm, ht⟩ := formOf_mem hf
  have hop := (takes_iff.1 ht).1
  have hfit : (letters f.follows).all (fun c => letterFit c i (at_ + longOf (letters f.follows))) = true := by
    rw [List.all_eq_true]
    intro c hc
    by_cases h110 : c = 110
    · obtain ⟨k, hk, ek⟩ := tab_at hm
      have hk2 := tab_near k hk c (by rw [ek]; exact hc) h110
      rw [ek, ← hop] at hk2
      have hjj : isJump i = true := by
        unfold isJump
        rcases hk2 with e | e <;> rw [e] <;> rfl
      rw [hj hjj]
      exact jump_near hf hjj c hc
    · unfold letterFit; rw [if_neg h110]
  have hin : inR 8 at_ = true := by simp [inR, lo, hi]; omega
  refine ⟨firstByte f i :: putList (letters f.follows) i (at_ + longOf (letters f.follows)), ?_⟩
  unfold insPut
  rw [hf]
  simp only
  rw [if_pos hin, if_pos hfit]
theorem jump_n {i : IIns} (hv : validIns i = true) (hj : isJump i = true) : 0 ≤ i.n ∧ i.n ≤ 1999 := by
  obtain ⟨op, a, b, n⟩ := i
  have : op = 27 ∨ op = 28 := by simpa [isJump] using hj
  rcases this with rfl | rfl
  all_goals
    simp [validIns, validAt, inRange, stab] at hv
    simp only
    omega
end Go.Proofs.Ytadcepgeodcacaa.C2
/- What is read is written as it was. No call is spoken of here. -/
namespace Go.Proofs.Ytadcepgeodcacaa.C2
open Go.RowKit Pl Ft Mm In

/-- The parts read one after the other from a list of bytes. -/
def rdl (next : Int) (j : IIns) : List Nat → List Int → IIns
  | [], _ => j
  | c :: l, bs => rdl next (letterWith c j (numIn (bs.take (letterLong c).toNat)) next) l (bs.drop (letterLong c).toNat)
theorem rfold_rdl (code : List Int) (next : Int) : ∀ (l : List Nat) (j : IIns) (p : Nat), (rfold code next j p l).1 = rdl next j l (code.drop p) := by
  intro l
  induction l with
  | nil => intro j p; rfl
  | cons c l ih =>
    intro j p
    have e : rfold code next j p (c :: l) = rfold code next (rstep code next (j, p) c).1 (rstep code next (j, p) c).2 l := rfl
    rw [e, ih]
    unfold rstep
    simp only [rdl, List.drop_drop]
theorem rdl_take (next : Int) : ∀ (L : List Nat) (j : IIns) (cs : List Int) (m : Nat), (m : Int) + 1 = longOf L → rdl next j L (cs.take m) = rdl next j L cs := by
  intro L
  induction L with
  | nil => intro j cs m _; rfl
  | cons c l ih =>
    intro j cs m hm
    have hc := letterLong_nat c
    have hlb := longOf_bd l
    have e : longOf (c :: l) = letterLong c + longOf l := by
      simp only [longOf, List.map_cons, List.sum_cons]
      omega
    rw [e] at hm
    have hk : (letterLong c).toNat ≤ m := by omega
    simp only [rdl]
    rw [List.take_take, Nat.min_eq_left hk, List.drop_take]
    exact ih _ _ _ (by omega)
def follows8 : List (List Nat) := [[], [114], [119], [115], [114, 98], [98], [110], [116, 119]]
theorem tab_follows : ∀ f ∈ tab, letters f.follows ∈ follows8 := by
  intro f hf
  have : tab.all (fun f => decide (letters f.follows ∈ follows8)) = true := by decide +kernel
  simpa using List.all_eq_true.1 this f hf
theorem byte_pair {x : Int} (h : isByte x = true) : 0 ≤ x ∧ x ≤ 255 := byte_iff.1 h
/-- With these letters: the numbers read are the ones that are written. -/
theorem put_read (next : Int) (j : IIns) (L : List Nat) (hL : L ∈ follows8) (bs : List Int) (hb : bs.all isByte = true) (hl : (bs.length : Int) + 1 = longOf L) :
    putList L (rdl next j L bs) next = bs ∧ (∀ c ∈ L, letterFit c (rdl next j L bs) next = true) ∧ (114 ∉ L → (rdl next j L bs).a = j.a) ∧ (114 ∉ L → 116 ∉ L → (rdl next j L bs).b = j.b) ∧ (rdl next j L bs).op = j.op := by
  obtain ⟨op, a, b, n⟩ := j
  simp only [follows8, List.mem_cons, List.not_mem_nil, or_false] at hL
  rcases hL with rfl | rfl | rfl | rfl | rfl | rfl | rfl | rfl
  · match bs, hl with
    | [], _ => simp [putList, rdl]
    | x :: r, hl => simp [longOf] at hl; omega
  · match bs, hl, hb with
    | [], hl, _ => simp [longOf, letterLong] at hl
    | [x], _, hb =>
      have h := byte_pair (by simpa using hb)
      simp [putList, rdl, letterPut, letterNum, letterLong, letterWith, letterFit, bytesOf, dv, List.range_succ, numIn]
      omega
    | x :: y :: r, hl, _ => simp [longOf, letterLong] at hl; omega
  · match bs, hl, hb with
    | [], hl, _ => simp [longOf, letterLong] at hl
    | [x], hl, _ => simp [longOf, letterLong] at hl
    | [x, y], _, hb =>
      have h := byte_pair (x := x) (by simp at hb; exact hb.1)
      have h2 := byte_pair (x := y) (by simp at hb; exact hb.2)
      simp [putList, rdl, letterPut, letterNum, letterLong, letterWith, letterFit, bytesOf, dv, List.range_succ, numIn, sgn, inR, lo, hi]
      first
        | omega
        | (by_cases hx : -128 ≤ x ∧ x ≤ 127 <;> simp only [hx, if_true, if_false, and_self, true_and] <;> omega)
    | x :: y :: z :: r, hl, _ => simp [longOf, letterLong] at hl; omega
  · match bs, hl, hb with
    | [], hl, _ => simp [longOf, letterLong] at hl
    | [x], _, hb =>
      have h := byte_pair (by simpa using hb)
      simp [putList, rdl, letterPut, letterNum, letterLong, letterWith, letterFit, bytesOf, dv, List.range_succ, numIn, sgn, inR, lo, hi]
      first
        | omega
        | (by_cases hx : -128 ≤ x ∧ x ≤ 127 <;> simp only [hx, if_true, if_false, and_self, true_and] <;> omega)
    | x :: y :: r, hl, _ => simp [longOf, letterLong] at hl; omega
  · match bs, hl, hb with
    | [], hl, _ => simp [longOf, letterLong] at hl
    | [x], hl, _ => simp [longOf, letterLong] at hl
    | [x, y], _, hb =>
      have h := byte_pair (x := x) (by simp at hb; exact hb.1)
      have h2 := byte_pair (x := y) (by simp at hb; exact hb.2)
      simp [putList, rdl, letterPut, letterNum, letterLong, letterWith, letterFit, bytesOf, dv, List.range_succ, numIn, sgn, inR, lo, hi]
      first
        | omega
        | (by_cases hx : -128 ≤ x ∧ x ≤ 127 <;> simp only [hx, if_true, if_false, and_self, true_and] <;> omega)
    | x :: y :: z :: r, hl, _ => simp [longOf, letterLong] at hl; omega
  · match bs, hl, hb with
    | [], hl, _ => simp [longOf, letterLong] at hl
    | [x], _, hb =>
      have h := byte_pair (by simpa using hb)
      simp [putList, rdl, letterPut, letterNum, letterLong, letterWith, letterFit, bytesOf, dv, List.range_succ, numIn, sgn, inR, lo, hi]
      first
        | omega
        | (by_cases hx : -128 ≤ x ∧ x ≤ 127 <;> simp only [hx, if_true, if_false, and_self, true_and] <;> omega)
    | x :: y :: r, hl, _ => simp [longOf, letterLong] at hl; omega
  · match bs, hl, hb with
    | [], hl, _ => simp [longOf, letterLong] at hl
    | [x], _, hb =>
      have h := byte_pair (by simpa using hb)
      simp [putList, rdl, letterPut, letterNum, letterLong, letterWith, letterFit, bytesOf, dv, List.range_succ, numIn, sgn, inR, lo, hi]
      first
        | omega
        | (by_cases hx : -128 ≤ x ∧ x ≤ 127 <;> simp only [hx, if_true, if_false, and_self, true_and] <;> omega)
    | x :: y :: r, hl, _ => simp [longOf, letterLong] at hl; omega
  · match bs, hl, hb with
    | [], hl, _ => simp [longOf, letterLong] at hl
    | [x], hl, _ => simp [longOf, letterLong] at hl
    | [x, y], hl, _ => simp [longOf, letterLong] at hl
    | [x, y, z], _, hb =>
      have h := byte_pair (x := x) (by simp at hb; exact hb.1)
      have h2 := byte_pair (x := y) (by simp at hb; exact hb.2.1)
      have h3 := byte_pair (x := z) (by simp at hb; exact hb.2.2)
      simp [putList, rdl, letterPut, letterNum, letterLong, letterWith, letterFit, bytesOf, dv, List.range_succ, numIn, sgn, inR, lo, hi]
      first
        | omega
        | (by_cases hx : -128 ≤ x ∧ x ≤ 127 <;> simp only [hx, if_true, if_false, and_self, true_and] <;> omega)
    | x :: y :: z :: u :: r, hl, _ => simp [longOf, letterLong] at hl; omega
theorem tab_rows : ∀ k, k < 33 → ((tab.getD k .none).added = 0 ∨ (tab.getD k .none).added = 1 ∨ (tab.getD k .none).added = 2) ∧ ((tab.getD k .none).added = 1 → 114 ∉ letters (tab.getD k .none).follows) ∧ ((tab.getD k .none).added = 2 → 114 ∉ letters (tab.getD k .none).follows ∧ 116 ∉ letters (tab.getD k .none).follows) := by decide +kernel
theorem takes_form {code : List Int} {at_ : Nat} {f : IForm} (hf : f ∈ tab) (ht : takes f (insRd code at_ f) = true) : formOf (insRd code at_ f) = some f := by
  have hv := takes_valid code at_ f hf
  rw [ht, ← some_valid] at hv
  obtain ⟨g, hg⟩ := Option.isSome_iff_exists.1 hv.symm
  have hop : (insRd code at_ f).op = f.op := by unfold insRd; rw [rfold_op, begunIns_op]
  obtain ⟨hm, hgt⟩ := formOf_mem hg
  obtain ⟨j, hj, ej⟩ := tab_at hf
  obtain ⟨k, hk, ek⟩ := tab_at hm
  have hal := alone_all j hj k hk
  unfold alone at hal
  rw [ej, ek] at hal
  have ht' := takes_iff.1 hgt
  have e1 : (f.op == g.op) = true := by rw [beq_iff_eq, ← hop]; exact ht'.1
  rw [e1] at hal
  simp only [Bool.not_true, Bool.false_or, Bool.or_eq_true, beq_iff_eq, Bool.and_eq_true, Bool.not_eq_true', beq_eq_false_iff_ne, decide_eq_true_eq] at hal
  rcases hal with rfl | ⟨⟨h1, h2⟩, h3⟩
  · rw [hg, ← ej, ek]
  · exfalso
    have ha : (insRd code at_ f).a = lo f.a := by
      unfold insRd
      rw [rfold_a _ _ _ _ _ h1]
      unfold begunIns
      rw [if_neg h2]
      split <;> rfl
    rw [ha] at ht'
    rw [decide_eq_true ht'.2.1.1, decide_eq_true ht'.2.1.2] at h3
    cases h3
/-- What insIn reads is put as it was. -/
theorem read_put {code : List Int} {at_ : Nat} {i : IIns} (hc : code.all isByte = true) (hat : at_ < code.length) (h2000 : at_ ≤ 1999) (h : insIn code at_ = some i) :
    ∃ l, insPut i at_ = some l ∧ l = (code.drop at_).take l.length ∧ at_ + l.length ≤ code.length := by
  unfold insIn at h
  cases hf : formAt (code.getD at_ 0) with
  | none => rw [hf] at h; cases h
  | some f =>
    rw [hf] at h
    simp only at h
    split at h
    · rename_i hok
      simp only [Option.some.injEq] at h
      simp only [Bool.and_eq_true, decide_eq_true_eq] at hok
      obtain ⟨hlen, ht⟩ := hok
      have hm := formAt_mem hf
      have hform := takes_form hm ht
      have hbo : begunOk f (code.getD at_ 0) = true := by
        have := List.find?_some hf
        exact this
      obtain ⟨L, hL⟩ : ∃ L, letters f.follows = L := ⟨_, rfl⟩
      have hL8 := tab_follows f hm
      rw [hL] at hlen hL8
      have hLb := longOf_bd L
      obtain ⟨m, hmm⟩ : ∃ m : Nat, longOf L = (m : Int) + 1 := ⟨(longOf L - 1).toNat, by omega⟩
      obtain ⟨x0, hx0⟩ : ∃ x, code.getD at_ 0 = x := ⟨_, rfl⟩
      obtain ⟨bs, hbs⟩ : ∃ bs, (code.drop (at_ + 1)).take m = bs := ⟨_, rfl⟩
      have hbl : bs.length = m := by rw [← hbs, List.length_take, List.length_drop]; omega
      have hbb : bs.all isByte = true := by
        rw [← hbs, List.all_eq_true]
        rw [List.all_eq_true] at hc
        exact fun x hx => hc x (List.mem_of_mem_drop (List.mem_of_mem_take hx))
      have hie : i = rdl (at_ + longOf L) (begunIns f x0) L bs := by
        rw [← h]
        unfold insRd
        rw [hL, rfold_rdl, hx0, ← hbs, rdl_take _ L _ _ m hmm.symm]
      obtain ⟨p1, p2, p3, p4, p5⟩ := put_read (at_ + longOf L) (begunIns f x0) L hL8 bs hbb (by omega)
      rw [← hie] at p1 p2 p3 p4 p5
      have hfirst : firstByte f i = x0 := by
        obtain ⟨k, hk, ek⟩ := tab_at hm
        obtain ⟨t1, t2, t3⟩ := tab_rows k hk
        rw [ek, hL] at t2 t3
        rw [ek] at t1
        rw [hx0] at hbo
        unfold begunOk at hbo
        unfold firstByte
        rcases t1 with e | e | e
        · rw [if_neg (by omega), if_neg (by omega)] at hbo ⊢
          have := beq_iff_eq.1 hbo
          omega
        · rw [if_pos e]
          have h3 := p3 (t2 e)
          unfold begunIns at h3
          rw [if_pos e] at h3
          simp only at h3
          omega
        · rw [if_neg (by omega), if_pos e]
          have h4 := p4 (t3 e).1 (t3 e).2
          unfold begunIns at h4
          rw [if_neg (by omega), if_pos e] at h4
          simp only at h4
          omega
      have hin : inR 8 (at_ : Int) = true := by simp [inR, lo, hi]; omega
      have hput : insPut i at_ = some (x0 :: bs) := by
        rw [h] at hform
        unfold insPut
        rw [hform]
        simp only
        rw [hL, if_pos hin, if_pos (List.all_eq_true.2 p2), hfirst, p1]
      refine ⟨x0 :: bs, hput, ?_, by simp; omega⟩
      rw [List.length_cons, hbl, ← hbs, ← hx0, List.drop_eq_getElem_cons hat, List.take_succ_cons]
      congr 1
      simp [hat]
    · cases h
end Go.Proofs.Ytadcepgeodcacaa.C2
/- InsAt of the program. -/
namespace Go.Proofs.Ytadcepgeodcacaa.C2
open Go.RowKit Pl Ft Mm In

theorem insAt_no {code : List Int} {at_ : Int} (h : (isCode code && (decide (0 ≤ at_) && decide (at_ < code.length))) = false) : insAt code at_ = none := by
  unfold insAt
  rw [h, if_neg (by simp)]
theorem insAt_yes {code : List Int} {at_ : Int} (h : (isCode code && (decide (0 ≤ at_) && decide (at_ < code.length))) = true) : insAt code at_ = insIn code at_.toNat := by
  unfold insAt
  rw [if_pos h]
set_option maxHeartbeats 1000000 in
theorem insAt_c (code : List Int) (v : Value) (at_ : Int) (w : World) (hr : Rd w v code) (hcap : ∀ a n c, v = .slice a n c → n ≤ c) (hlen : code.length ≤ 4611686018427387904) :
    Calls Try.prog 7 #[v, .int .i64 at_] w (InsPost (insAt code at_) w) := by
  have HRd := hid hr
  have HCap := hid hcap
  obtain ⟨a, cap, rfl, _⟩ := hr
  clear hcap
  have HB0 := hid ((Below.refl w.heap.size w).alloc (Nat.le_refl _) (.cells #[.int .i64 0, .int .i64 0, .int .i64 0, .int .i64 0] 27))
  have HO0 := hid (Row.new w 27 #[.int .i64 0, .int .i64 0, .int .i64 0, .int .i64 0])
  have HRd0 := hid (HRd.out.on HB0.out)
  cases hc : isCode code
  · have HC := hid hc
    have HNo := hid (insAt_no (code := code) (at_ := at_) (by rw [hc]; rfl))
    clear hc
    go_enter Try.func7, Try.ntmps7
    go_wp2_with (go_at_call 27; refine (isCode_c code _ _ HRd0.out hlen).mono ?_; rw [HC.out]; rintro e w' ⟨rfl, rfl⟩)
    refine bodyPost_ret (v := .tuple #[.agg z4, .bool false]) ?_ rfl ?_
    · exact results_cell_tmp Try.results7 _ _ w.heap.size z4 _ rfl HO0.out Try.underlying27 size_four
    exact ⟨by rw [HNo.out]; rfl, HB0.out⟩
  have HC := hid hc
  clear hc
  by_cases h0 : 0 ≤ at_
  case neg =>
    have HNo := hid (insAt_no (code := code) (at_ := at_) (by rw [decide_eq_false h0]; simp))
    go_enter Try.func7, Try.ntmps7
    go_wp2_with (go_at_call 27; refine (isCode_c code _ _ HRd0.out hlen).mono ?_; rw [HC.out]; rintro e w' ⟨rfl, rfl⟩)
    refine bodyPost_ret (v := .tuple #[.agg z4, .bool false]) ?_ rfl ?_
    · exact results_cell_tmp Try.results7 _ _ w.heap.size z4 _ rfl HO0.out Try.underlying27 size_four
    exact ⟨by rw [HNo.out]; rfl, HB0.out⟩
  by_cases h1 : at_ < code.length
  case neg =>
    have HNo := hid (insAt_no (code := code) (at_ := at_) (by rw [decide_eq_false h1]; simp))
    go_enter Try.func7, Try.ntmps7
    go_wp2_with (go_at_call 27; refine (isCode_c code _ _ HRd0.out hlen).mono ?_; rw [HC.out]; rintro e w' ⟨rfl, rfl⟩)
    refine bodyPost_ret (v := .tuple #[.agg z4, .bool false]) ?_ rfl ?_
    · exact results_cell_tmp Try.results7 _ _ w.heap.size z4 _ rfl HO0.out Try.underlying27 size_four
    exact ⟨by rw [HNo.out]; rfl, HB0.out⟩
  obtain ⟨k, rfl⟩ := Int.eq_ofNat_of_zero_le h0
  have HYes := hid (insAt_yes (code := code) (at_ := (k : Int)) (by rw [HC.out, decide_eq_true h0, decide_eq_true h1]; rfl))
  have hl2 : code.length ≤ 2000 ∧ code.all isByte = true := by simpa [isCode] using HC.out
  obtain ⟨hl2, hby⟩ := hl2
  have HBy := hid hby
  clear hby
  go_enter Try.func7, Try.ntmps7
  go_wp2_with (go_at_call 27; refine (isCode_c code _ _ HRd0.out hlen).mono ?_; rw [HC.out]; rintro e w' ⟨rfl, rfl⟩)
  refine (insIn_c code _ k _ HRd0.out HCap.out HBy.out hl2 (by omega)).mono ?_
  rintro e w1 ⟨rfl, hb1⟩
  have HB1 := hid (HB0.out.trans (hb1.mono (by simp)))
  have HO1 := hid (HO0.out.on hb1)
  have hz1 := hb1.size
  simp only [World.size_alloc] at hz1
  have hw01 : w.heap.size < w1.heap.size := by omega
  clear hb1
  obtain ⟨o, ho⟩ : ∃ o, insIn code k = o := ⟨_, rfl⟩
  rw [ho]
  have HOo := hid ho
  clear ho
  obtain ⟨⟨jop, ja, jb, jn⟩, hj⟩ : ∃ i, o.getD insZero = i := ⟨_, rfl⟩
  unfold insVal
  rw [hj]
  have HJ := hid hj
  clear hj
  unfold IIns.val
  simp only
  have o0 := HO1.out.cell 0
  have o1 := HO1.out.cell 1
  have o2 := HO1.out.cell 2
  have o3 := HO1.out.cell 3
  simp at o0 o1 o2 o3
  have hfo := HO1.out.free
  go_wp2_with fail
  clear o0 o1 o2 o3 hfo
  refine bodyPost_ret (v := .tuple #[.agg (i4 ⟨jop, ja, jb, jn⟩), .bool o.isSome]) ?_ rfl ?_
  · exact results_cell_tmp Try.results7 _ _ w.heap.size (i4 ⟨jop, ja, jb, jn⟩) _ rfl (four_row HO1.out jop ja jb jn) Try.underlying27 size_four
  exact ⟨by rw [HYes.out, Int.toNat_natCast, HOo.out]; unfold insVal; rw [HJ.out]; rfl, four_bel HB1.out (Nat.le_refl _) _ _ _ _⟩
end Go.Proofs.Ytadcepgeodcacaa.C2
/- Whether an image is one, by the model: validImage, ImageOk. -/
namespace Go.Proofs.Ytadcepgeodcacaa.Im
open Go.RowKit Pl Ft Mm In C2

theorem imageOk_eq (m : Img) : imageOk m = (isCode m.code && (inRange m.entry 0 ((m.code.length : Int) - 1) && (inRange m.room 0 64 && (decide ((m.data.length : Int) ≤ m.room) && (m.data.all isByte && namesOk m.names m.code.length))))) := by
  unfold imageOk codeOk memOk
  rw [inRange_place]
  have e : inRange m.room 0 64 = (decide (0 ≤ m.room) && decide (m.room ≤ 64)) := by simp [inRange]
  rw [e]
  by_cases h : 0 < m.code.length
  · rw [decide_eq_true h]
    simp only [Bool.true_and, Bool.and_assoc]
  · have h0 : m.code.length = 0 := by omega
    rw [decide_eq_false h, h0]
    have : (decide (0 ≤ m.entry) && decide (m.entry < ((0 : Nat) : Int))) = false := by
      rw [Bool.and_eq_false_iff, decide_eq_false_iff_not, decide_eq_false_iff_not]
      omega
    rw [this]
    simp
set_option maxHeartbeats 1000000 in
theorem validImage_c (m : Img) (vc vd vn : Value) (w : World) (h : ICells w vc vd vn m) (hs : Sm m) :
    Calls Try.prog 41 #[imgVal vc vd vn m] w fun e w' => e = .returned (.bool (imageOk m)) ∧ Below w.heap.size w w' := by
  obtain ⟨ac, cc, rfl⟩ := rd_slice h.c
  obtain ⟨ad, cd, rfl⟩ := rd_slice h.d
  obtain ⟨an, cn, rfl⟩ := nrd_slice h.n
  have hlc := hs.c
  have hld := hs.d
  have hln := hs.n
  have HI := hid (h.alloc (.cells #[.slice ac m.code.length cc, .int .i64 m.entry, .int .i64 m.room, .slice ad m.data.length cd, .slice an m.names.length cn] 41))
  have HS := hid hs
  have HB0 := hid ((Below.refl w.heap.size w).alloc (Nat.le_refl _) (.cells #[.slice ac m.code.length cc, .int .i64 m.entry, .int .i64 m.room, .slice ad m.data.length cd, .slice an m.names.length cn] 41))
  have HQ := hid (imageOk_eq m)
  clear h hs
  have hV : imgVal (.slice ac m.code.length cc) (.slice ad m.data.length cd) (.slice an m.names.length cn) m = .agg #[.slice ac m.code.length cc, .int .i64 m.entry, .int .i64 m.room, .slice ad m.data.length cd, .slice an m.names.length cn] := rfl
  rw [hV]
  clear hV
  cases h1 : isCode m.code
  · have H1 := hid h1
    clear h1
    go_enter Try.func41, Try.ntmps41
    go_wp2_with (go_at_call 29; refine (sIsCode_c m.code _ _ HI.out.c (by omega)).mono ?_; rw [H1.out]; rintro e w' ⟨rfl, rfl⟩)
    go_ret
    exact ⟨bool_eq (by rw [HQ.out, H1.out]; rfl), HB0.out⟩
  have H1 := hid h1
  clear h1
  cases h2 : inRange m.entry 0 ((m.code.length : Int) - 1)
  · have H2 := hid h2
    clear h2
    go_enter Try.func41, Try.ntmps41
    go_wp2_with (first | (go_at_call 29; refine (sIsCode_c m.code _ _ HI.out.c (by omega)).mono ?_; rw [H1.out]; rintro e w' ⟨rfl, rfl⟩) | (go_at_call 30; refine (inR_c _ _ _ _).mono ?_; rw [H2.out]; rintro e w' ⟨rfl, rfl⟩))
    go_ret
    exact ⟨bool_eq (by rw [HQ.out, H1.out, H2.out]; rfl), HB0.out⟩
  have H2 := hid h2
  clear h2
  cases h3 : inRange m.room 0 64
  · have H3 := hid h3
    clear h3
    go_enter Try.func41, Try.ntmps41
    go_wp2_with (first | (go_at_call 29; refine (sIsCode_c m.code _ _ HI.out.c (by omega)).mono ?_; rw [H1.out]; rintro e w' ⟨rfl, rfl⟩) | (go_at_call 30; refine (inR_c _ _ _ _).mono ?_; (first | rw [H2.out] | rw [H3.out]); rintro e w' ⟨rfl, rfl⟩))
    go_ret
    exact ⟨bool_eq (by rw [HQ.out, H1.out, H2.out, H3.out]; rfl), HB0.out⟩
  have H3 := hid h3
  clear h3
  by_cases h4 : (m.data.length : Int) ≤ m.room
  · have H4 := hid h4
    cases h5 : m.data.all isByte
    · have H5 := hid h5
      clear h5
      go_enter Try.func41, Try.ntmps41
      go_wp2_with (first | (go_at_call 29; refine (sIsCode_c m.code _ _ HI.out.c (by omega)).mono ?_; rw [H1.out]; rintro e w' ⟨rfl, rfl⟩) | (go_at_call 30; refine (inR_c _ _ _ _).mono ?_; (first | rw [H2.out] | rw [H3.out]); rintro e w' ⟨rfl, rfl⟩) | (go_at_call 49; refine (sAreBytes_c m.data _ _ HI.out.d (by omega)).mono ?_; rw [H5.out]; rintro e w' ⟨rfl, rfl⟩))
      go_ret
      exact ⟨bool_eq (by rw [HQ.out, H1.out, H2.out, H3.out, H5.out]; simp), HB0.out⟩
    · have H5 := hid h5
      clear h5
      go_enter Try.func41, Try.ntmps41
      go_wp2_with (first | (go_at_call 29; refine (sIsCode_c m.code _ _ HI.out.c (by omega)).mono ?_; rw [H1.out]; rintro e w' ⟨rfl, rfl⟩) | (go_at_call 30; refine (inR_c _ _ _ _).mono ?_; (first | rw [H2.out] | rw [H3.out]); rintro e w' ⟨rfl, rfl⟩) | (go_at_call 49; refine (sAreBytes_c m.data _ _ HI.out.d (by omega)).mono ?_; rw [H5.out]; rintro e w' ⟨rfl, rfl⟩))
      refine (validNames_c m.names m.code.length _ _ HI.out.n hln hlc HS.out.t).mono ?_
      rintro e w1 ⟨rfl, hb1⟩
      have HB1 := hid (HB0.out.trans (hb1.mono HB0.out.size))
      clear hb1
      go_wp2_with fail
      go_ret
      exact ⟨bool_eq (by rw [HQ.out, H1.out, H2.out, H3.out, H5.out, decide_eq_true H4.out]; simp), HB1.out⟩
  · have H4 := hid h4
    go_enter Try.func41, Try.ntmps41
    go_wp2_with (first | (go_at_call 29; refine (sIsCode_c m.code _ _ HI.out.c (by omega)).mono ?_; rw [H1.out]; rintro e w' ⟨rfl, rfl⟩) | (go_at_call 30; refine (inR_c _ _ _ _).mono ?_; (first | rw [H2.out] | rw [H3.out]); rintro e w' ⟨rfl, rfl⟩))
    go_ret
    exact ⟨bool_eq (by rw [HQ.out, H1.out, H2.out, H3.out, decide_eq_false (by have := H4.out; omega : ¬ (m.data.length : Int) ≤ m.room)]; simp), HB0.out⟩
end Go.Proofs.Ytadcepgeodcacaa.Im
/- The laws' own helpers over numbers, names and images: what they return (toIntS, toNameS, toImage, szImage, eqImage). -/
namespace Go.Proofs.Ytadcepgeodcacaa.Im
open Go.RowKit Pl Ft Mm In C2

/-- An address that holds a cell has no spot: what an argument is reads as what a slice is. -/
theorem cell_spot {w : World} {a : Addr} {u : Value} (h : w.cell? a = some u) : a = ⟨a.block, a.off, none⟩ := by
  unfold World.cell? at h
  split at h
  · split at h
    · cases h
    · rename_i hn
      cases hs : a.spot with
      | none => rw [← hs]
      | some s => rw [hs] at hn; simp at hn
  · cases h
theorem cell_lt {w : World} {a : Addr} {u : Value} (h : w.cell? a = some u) : a.block < w.heap.size := by
  unfold World.cell? at h
  split at h
  · rename_i hs
    exact (Array.getElem?_eq_some_iff.1 hs).1
  · cases h
theorem add_none (g o n : Nat) : (⟨g, o, none⟩ : Addr).add n = ⟨g, o + n, none⟩ := by unfold Addr.add; split <;> simp_all
theorem rd_of_cells {w : World} {ad : Addr} {xs : List Int} {cap : Nat} (h : ∀ j, j < xs.length → w.cell? (ad.add j) = some (.int .i64 (xs.getD j 0))) : Rd w (.slice (some ad) xs.length cap) xs := by
  refine ⟨some ad, cap, rfl, ?_⟩
  by_cases h0 : xs = []
  · exact .inl h0
  · have hp : 0 < xs.length := List.length_pos_iff.2 h0
    have hc := h 0 hp
    have e : ad.add 0 = ad := rfl
    rw [e] at hc
    have hs := cell_spot hc
    refine .inr ⟨ad.block, ad.off, by rw [← hs], cell_lt hc, fun j hj => ?_⟩
    rw [← add_none, ← hs]
    exact h j hj
theorem nrd_of_cells {w : World} {ad : Addr} {l : List Nm} {cap : Nat} (h : ∀ j, j < l.length → w.cell? (ad.add (j * 2)) = some (.string (l.getD j .none).text) ∧ w.cell? (ad.add (j * 2 + 1)) = some (.int .i64 (l.getD j .none).at_)) : NRd w (.slice (some ad) l.length cap) l := by
  refine ⟨some ad, cap, rfl, ?_⟩
  by_cases h0 : l = []
  · exact .inl h0
  · have hp : 0 < l.length := List.length_pos_iff.2 h0
    have hc := (h 0 hp).1
    rw [Nat.zero_mul] at hc
    have e : ad.add 0 = ad := rfl
    rw [e] at hc
    have hs := cell_spot hc
    refine .inr ⟨ad.block, ad.off, by rw [← hs], cell_lt hc, fun j hj => ?_⟩
    rw [Nat.add_assoc, ← add_none, ← add_none, ← hs]
    exact h j hj
theorem copy_step (xs : List Int) (Z : List Value) (k : Nat) (h : k < xs.length) (hz : Z.length = xs.length) : (ints (xs.take k) ++ Z.drop k).set k (.int .i64 (xs.getD k 0)) = ints (xs.take (k + 1)) ++ Z.drop (k + 1) := by
  have e : Z.drop k = Z[k]'(by omega) :: Z.drop (k + 1) := List.drop_eq_getElem_cons (by omega)
  have e2 : xs.take (k + 1) = xs.take k ++ [xs.getD k 0] := by rw [List.take_succ_eq_append_getElem h]; simp [h]
  have hl : (ints (xs.take k)).length = k := by simp [ints]; omega
  rw [e, e2, List.set_append_right _ _ (by omega), hl]
  simp only [ints, List.map_append, List.map_cons, List.map_nil, Nat.sub_self, List.set_cons_zero, List.append_assoc, List.singleton_append]
set_option maxHeartbeats 1000000 in
theorem toIntS_c (xs : List Int) (v : Value) (w : World) (ha : Rd w v xs) (hl : xs.length ≤ 1048576) :
    Calls Try.prog 21 #[v] w fun e w' => ∃ v', e = .returned v' ∧ w'.ownsRow w.heap.size 3 1 v' xs.length (ints xs) ∧ Below w.heap.size w w' := by
  obtain ⟨a, cap, rfl, ha⟩ := ha
  have HA := hid ha
  clear ha
  obtain ⟨i0, hi, hz0, hz1, hz2⟩ := info_parts info_int
  have H0 := hid hz0
  have H1 := hid hz1
  have H2 := hid hz2
  have HI := hid hi
  clear hz0 hz1 hz2 hi
  go_enter Try.func21, Try.ntmps21
  go_wp2_with (refine wpList_make_full _ rfl _ _ 23 rfl w.heap.size 3 i0 (.int .i64 0) 1 Try.underlying23 HI.out H0.out H1.out .i64 .i64 _ _ xs.length rfl rfl rfl rfl (by rw [H2.out]; omega) (by simp only [maxLen]; omega) (Nat.le_refl _) ?_; intro w1 hown1 hg1)
  obtain ⟨Z, hZ⟩ : ∃ Z, (madeCells (Value.cells (.int .i64 0)) (xs.length * 1)).toList = Z := ⟨_, rfl⟩
  rw [hZ] at hown1
  have hZl : Z.length = xs.length := by have := hown1.1; omega
  have HZ := hid hZl
  have HO := hid hown1
  have HB1 := hid ((Below.refl w.heap.size w).grown hg1 (Nat.le_refl _) (by simp))
  clear hown1 hg1 hZ hZl
  go_loopw [4] (fun c wr => ∃ k : Nat, c = .int .i64 k ∧ k ≤ xs.length ∧ wr.ownsRow w.heap.size 3 1 (.slice (some ⟨w.heap.size, 0, none⟩) xs.length xs.length) xs.length (ints (xs.take k) ++ Z.drop k) ∧ Below w.heap.size w wr) (fun c _ => xs.length - (intOf c).toNat)
  case atStart => exact ⟨0, rfl, by omega, by simpa [ints] using HO.out, HB1.out⟩
  case round =>
    obtain ⟨k, rfl, hk, hown, hbel⟩ := hrel
    by_cases hlt : k < xs.length
    · rcases HA.out with h | ⟨g, o, rfl, hg, hc⟩
      · subst h; simp at hlt
      have q1 : wr.cell? ⟨g, o + k, none⟩ = some (.int .i64 (xs.getD k 0)) := (hbel.cell (p := ⟨g, o + k, none⟩) hg).trans (hc k hlt)
      have hcell := hown.cellAt k (by omega)
      have hsome : ∃ u, (ints (xs.take k) ++ Z.drop k)[k]? = some u := by
        have hlen : k < (ints (xs.take k) ++ Z.drop k).length := by have := HZ.out; simp [ints]; omega
        exact ⟨_, List.getElem?_eq_getElem hlen⟩
      obtain ⟨u, hu⟩ := hsome
      rw [hu] at hcell
      have hfz := hown.frozenAt k
      have hst := hown.stored k (.int .i64 (xs.getD k 0))
      rw [copy_step xs Z k hlt HZ.out] at hst
      have HS := hid hst
      have HB2 := hid (hbel.setCell (p := ⟨w.heap.size, k, none⟩) (Nat.le_refl _) (.int .i64 (xs.getD k 0)))
      obtain ⟨x, hx⟩ : ∃ x, xs.getD k 0 = x := ⟨_, rfl⟩
      rw [hx] at q1 HS HB2
      clear hst hown hbel hu hc hx
      go_wp2_with fail
      go_roundw
      case rel => exact ⟨k + 1, by go_num, by omega, HS.out.1, HB2.out⟩
      case measure => simp [intOf]; omega
    · obtain rfl : k = xs.length := by omega
      have HO2 := hid hown
      have HB2 := hid hbel
      clear hown hbel
      go_wp2_with fail
      go_ret
      exact ⟨_, rfl, by have := HO2.out; rwa [List.take_length, List.drop_of_length_le (by rw [HZ.out]; exact Nat.le_refl _), List.append_nil] at this, HB2.out⟩
end Go.Proofs.Ytadcepgeodcacaa.Im
/- The laws' own helpers over names and images: toName, toNameS, toImage. -/
namespace Go.Proofs.Ytadcepgeodcacaa.Im
open Go.RowKit Pl Ft Mm In C2

theorem toName_c (n : Nm) (w : World) : Calls Try.prog 73 #[.agg #[.string n.text, .int .i64 n.at_]] w fun e w' => e = .returned (.agg #[.string n.text, .int .i64 n.at_]) ∧ Below w.heap.size w w' := by
  go_enter Try.func73, Try.ntmps73
  go_wp2
  refine bodyPost_ret (v := .agg #[.string n.text, .int .i64 n.at_]) (by simp [results, Try.results73, go_sem]) rfl ⟨rfl, ?_⟩
  repeat' first | exact Below.refl _ _ | (refine Below.setCell ?_ (by simp; try omega) _) | (refine Below.alloc ?_ (by simp; try omega) _)
theorem info_name : (Try.prog.info? 77).map (fun i => (i.zero, i.size, i.bytes)) = some (some (.agg #[.string ⟨#[]⟩, .int .i64 0]), 2, 24) := by kernel_rfl
theorem nm_step (l : List Nm) (Z : List Value) (k : Nat) (h : k < l.length) (hz : Z.length = l.length * 2) :
    ((nmCells (l.take k) ++ Z.drop (k * 2)).set (k * 2) (.string (l.getD k .none).text)).set (k * 2 + 1) (.int .i64 (l.getD k .none).at_) = nmCells (l.take (k + 1)) ++ Z.drop ((k + 1) * 2) := by
  have e0 : Z.drop (k * 2) = Z[k * 2]'(by omega) :: Z.drop (k * 2 + 1) := List.drop_eq_getElem_cons (by omega)
  have e1 : Z.drop (k * 2 + 1) = Z[k * 2 + 1]'(by omega) :: Z.drop (k * 2 + 1 + 1) := List.drop_eq_getElem_cons (by omega)
  have e2 : l.take (k + 1) = l.take k ++ [l.getD k .none] := by rw [List.take_succ_eq_append_getElem h]; simp [h]
  have hl : (nmCells (l.take k)).length = k * 2 := by rw [nmCells_len, List.length_take]; omega
  have e3 : nmCells (l.take k ++ [l.getD k .none]) = nmCells (l.take k) ++ [.string (l.getD k .none).text, .int .i64 (l.getD k .none).at_] := by
    simp only [nmCells, List.flatMap_append, List.flatMap_cons, List.flatMap_nil, List.append_nil, Nm.cells]
  have e4 : (k + 1) * 2 = k * 2 + 1 + 1 := by omega
  rw [e0, e1, e2, e3, e4, List.set_append_right _ _ (by omega), hl, Nat.sub_self, List.set_cons_zero, List.set_append_right _ _ (by omega), hl, Nat.add_sub_cancel_left, List.set_cons_succ, List.set_cons_zero, List.append_assoc]
  rfl
set_option maxHeartbeats 1000000 in
theorem toNameS_c (l : List Nm) (v : Value) (w : World) (ha : NRd w v l) (hl : l.length ≤ 1048576) :
    Calls Try.prog 43 #[v] w fun e w' => ∃ v', e = .returned v' ∧ w'.ownsRow w.heap.size 77 2 v' l.length (nmCells l) ∧ Below w.heap.size w w' := by
  obtain ⟨a, cap, rfl, ha⟩ := ha
  have HA := hid ha
  clear ha
  obtain ⟨i0, hi, hz0, hz1, hz2⟩ := info_parts info_name
  have H0 := hid hz0
  have H1 := hid hz1
  have H2 := hid hz2
  have HI := hid hi
  clear hz0 hz1 hz2 hi
  go_enter Try.func43, Try.ntmps43
  go_wp2_with (refine wpList_make_full _ rfl _ _ 39 rfl w.heap.size 77 i0 (.agg #[.string ⟨#[]⟩, .int .i64 0]) 2 Try.underlying39 HI.out H0.out H1.out .i64 .i64 _ _ l.length rfl rfl rfl rfl (by rw [H2.out]; omega) (by simp only [maxLen]; omega) (Nat.le_refl _) ?_; intro w1 hown1 hg1)
  obtain ⟨Z, hZ⟩ : ∃ Z, (madeCells (Value.cells (.agg #[.string ⟨#[]⟩, .int .i64 0])) (l.length * 2)).toList = Z := ⟨_, rfl⟩
  rw [hZ] at hown1
  have HZ := hid hown1.1
  have HO := hid hown1
  have HB1 := hid ((Below.refl w.heap.size w).grown hg1 (Nat.le_refl _) (by simp))
  clear hown1 hg1 hZ
  go_loopw [4] (fun c wr => ∃ k : Nat, c = .int .i64 k ∧ k ≤ l.length ∧ wr.ownsRow w.heap.size 77 2 (.slice (some ⟨w.heap.size, 0, none⟩) l.length l.length) l.length (nmCells (l.take k) ++ Z.drop (k * 2)) ∧ Below w.heap.size w wr) (fun c _ => l.length - (intOf c).toNat)
  case atStart => exact ⟨0, rfl, by omega, by simpa [nmCells] using HO.out, HB1.out⟩
  case round =>
    obtain ⟨k, rfl, hk, hown, hbel⟩ := hrel
    by_cases hlt : k < l.length
    · rcases HA.out with h | ⟨g, o, rfl, hg, hc⟩
      · subst h; simp at hlt
      obtain ⟨c0, c1⟩ := hc k hlt
      have q1 : wr.cell? ⟨g, o + k * 2, none⟩ = some (.string (l.getD k .none).text) := (hbel.cell (p := ⟨g, o + k * 2, none⟩) hg).trans c0
      have q2 : wr.cell? ⟨g, o + k * 2 + 1, none⟩ = some (.int .i64 (l.getD k .none).at_) := (hbel.cell (p := ⟨g, o + k * 2 + 1, none⟩) hg).trans c1
      obtain ⟨t, ht⟩ : ∃ t, (l.getD k .none).text = t := ⟨_, rfl⟩
      obtain ⟨x, hx⟩ : ∃ t, (l.getD k .none).at_ = t := ⟨_, rfl⟩
      rw [ht] at q1
      rw [hx] at q2
      have HT := hid ht
      have HX := hid hx
      have HOw := hid hown
      have HBe := hid hbel
      clear hown hbel hc c0 c1 ht hx
      go_wp2_with fail
      refine (toName_c ⟨t, x⟩ _).mono ?_
      rintro e w2 ⟨rfl, hb2⟩
      have HO2 := hid (own_on HOw.out hb2)
      have HB2 := hid (HBe.out.trans (hb2.mono HBe.out.size))
      have hz2 := HO2.out.lt w.heap.size rfl
      clear hb2
      have hc0 := HO2.out.cellAt (k * 2) (by omega)
      have hc1 := HO2.out.cellAt (k * 2 + 1) (by omega)
      have hlen : k * 2 + 1 < (nmCells (l.take k) ++ Z.drop (k * 2)).length := by have := HZ.out; rw [List.length_append, nmCells_len, List.length_take, List.length_drop]; omega
      rw [List.getElem?_eq_getElem (by omega)] at hc0
      rw [List.getElem?_eq_getElem hlen] at hc1
      have hf0 := HO2.out.frozenAt (k * 2)
      have hf1 := HO2.out.frozenAt (k * 2 + 1)
      have hst := ((HO2.out.stored (k * 2) (.string t)).1.stored (k * 2 + 1) (.int .i64 x)).1
      have hstep := nm_step l Z k hlt HZ.out
      rw [HT.out, HX.out] at hstep
      rw [hstep] at hst
      have HS := hid hst
      have HB3 := hid ((HB2.out.setCell (p := ⟨w.heap.size, k * 2, none⟩) (Nat.le_refl _) (.string t)).setCell (p := ⟨w.heap.size, k * 2 + 1, none⟩) (Nat.le_refl _) (.int .i64 x))
      obtain ⟨u0, hu0⟩ : ∃ u, (nmCells (l.take k) ++ Z.drop (k * 2))[k * 2]'(by omega) = u := ⟨_, rfl⟩
      obtain ⟨u1, hu1⟩ : ∃ u, (nmCells (l.take k) ++ Z.drop (k * 2))[k * 2 + 1]'hlen = u := ⟨_, rfl⟩
      rw [hu0] at hc0
      rw [hu1] at hc1
      clear hst hstep hlen hu0 hu1 q1 q2
      go_wp2_with fail
      go_roundw
      case rel => exact ⟨k + 1, by go_num, by omega, HS.out, HB3.out⟩
      case measure => simp [intOf]; omega
    · obtain rfl : k = l.length := by omega
      have HO2 := hid hown
      have HB2 := hid hbel
      clear hown hbel
      go_wp2_with fail
      go_ret
      exact ⟨_, rfl, by have := HO2.out; rwa [List.take_length, List.drop_of_length_le (by rw [HZ.out]; exact Nat.le_refl _), List.append_nil] at this, HB2.out⟩
/-- An image in memory of one's own. -/
structure IOwn (w : World) (B : Nat) (vc vd vn : Value) (m : Img) : Prop where
  c : w.ownsRow B 3 1 vc m.code.length (ints m.code)
  d : w.ownsRow B 3 1 vd m.data.length (ints m.data)
  n : w.ownsRow B 77 2 vn m.names.length (nmCells m.names)
  ne : ∀ g, vc.ownBlock = some g → vd.ownBlock ≠ some g
theorem IOwn.cells {w : World} {B : Nat} {vc vd vn : Value} {m : Img} (h : IOwn w B vc vd vn m) : ICells w vc vd vn m := ⟨.of_own h.c, .of_own h.d, .of_own h.n, own_cap h.n⟩
theorem IOwn.on {w w' : World} {B : Nat} {vc vd vn : Value} {m : Img} (h : IOwn w B vc vd vn m) (hb : Below w.heap.size w w') : IOwn w' B vc vd vn m := ⟨own_on h.c hb, own_on h.d hb, own_on h.n hb, h.ne⟩
def ImgPost (m : Img) (w : World) (e : Ending) (w' : World) : Prop := ∃ vc vd vn, e = .returned (imgVal vc vd vn m) ∧ IOwn w' w.heap.size vc vd vn m ∧ Below w.heap.size w w'
theorem own_far {w : World} {base : Nat} {e : TypeId} {size : Nat} {v : Value} {n : Nat} {xs : List Value} (h : w.ownsRow base e size v n xs) {p : Addr} (hp : ∀ g, v.ownBlock = some g → g ≠ p.block) (u : Value) : (w.setCell p u).ownsRow base e size v n xs := by
  refine ⟨h.1, ?_⟩
  rcases h.2 with h0 | ⟨g, cap, cur, rfl, hg, hr, hrest⟩
  · exact .inl h0
  · exact .inr ⟨g, cap, cur, rfl, hg, (Below.heap_setCell w p u g (hp g rfl)).trans hr, hrest⟩
theorem size_img : (Try.prog.info? 41).map (·.size) = some 5 := by kernel_rfl
theorem rd_below {B : Nat} {w w' : World} {v : Value} {xs : List Int} (h : Rd w v xs) (hb : Below w.heap.size w w') : Rd w' v xs := h.on hb
theorem five_row {w : World} {g : Nat} {t : TypeId} {x0 x1 x2 x3 x4 : Value} (h : Row w g t #[x0, x1, x2, x3, x4]) (vc : Value) (e r : Int) (vd vn : Value) :
    Row (((((w.setCell ⟨g, 0, none⟩ vc).setCell ⟨g, 1, none⟩ (.int .i64 e)).setCell ⟨g, 2, none⟩ (.int .i64 r)).setCell ⟨g, 3, none⟩ vd).setCell ⟨g, 4, none⟩ vn) g t #[vc, .int .i64 e, .int .i64 r, vd, vn] := ((((h.set 0 _).set 1 _).set 2 _).set 3 _).set 4 _
theorem five_bel {B : Nat} {w w' : World} {g : Nat} (h : Below B w w') (hg : B ≤ g) (y0 y1 y2 y3 y4 : Value) : Below B w (((((w'.setCell ⟨g, 0, none⟩ y0).setCell ⟨g, 1, none⟩ y1).setCell ⟨g, 2, none⟩ y2).setCell ⟨g, 3, none⟩ y3).setCell ⟨g, 4, none⟩ y4) := by
  have h0 := h.setCell (p := ⟨g, 0, none⟩) hg y0
  have h1 := h0.setCell (p := ⟨g, 1, none⟩) hg y1
  have h2 := h1.setCell (p := ⟨g, 2, none⟩) hg y2
  have h3 := h2.setCell (p := ⟨g, 3, none⟩) hg y3
  exact h3.setCell (p := ⟨g, 4, none⟩) hg y4
theorem own_far5 {w : World} {base : Nat} {e : TypeId} {size : Nat} {v : Value} {n : Nat} {xs : List Value} (h : w.ownsRow base e size v n xs) {g : Nat} (hg : ∀ b, v.ownBlock = some b → b ≠ g) (y0 y1 y2 y3 y4 : Value) :
    (((((w.setCell ⟨g, 0, none⟩ y0).setCell ⟨g, 1, none⟩ y1).setCell ⟨g, 2, none⟩ y2).setCell ⟨g, 3, none⟩ y3).setCell ⟨g, 4, none⟩ y4).ownsRow base e size v n xs :=
  own_far (own_far (own_far (own_far (own_far h (p := ⟨g, 0, none⟩) hg y0) (p := ⟨g, 1, none⟩) hg y1) (p := ⟨g, 2, none⟩) hg y2) (p := ⟨g, 3, none⟩) hg y3) (p := ⟨g, 4, none⟩) hg y4
set_option maxHeartbeats 1000000 in
theorem toImage_c (m : Img) (vc vd vn : Value) (w : World) (hc : Rd w vc m.code) (hd : Rd w vd m.data) (hn : NRd w vn m.names) (hs : Sm m) :
    Calls Try.prog 13 #[imgVal vc vd vn m] w (ImgPost m w) := by
  have HC := hid hc
  have HD := hid hd
  have HN := hid hn
  have hlc := hs.c
  have hld := hs.d
  have hln := hs.n
  clear hc hd hn hs
  unfold imgVal
  go_enter Try.func13, Try.ntmps13
  go_wp2_with fail
  have ha1 := (Below.refl w.heap.size w).alloc (Nat.le_refl _) (.cells #[vc, .int .i64 m.entry, .int .i64 m.room, vd, vn] 36)
  have ha2 := ha1.alloc ha1.size (.cells #[.slice none 0 0, .int .i64 0, .int .i64 0, .slice none 0 0, .slice none 0 0] 41)
  have HB0 := hid (ha2.alloc ha2.size (.cells #[.slice none 0 0, .int .i64 0, .int .i64 0, .slice none 0 0, .slice none 0 0] 41))
  clear ha1 ha2
  have HX0 := hid (((Row.new w 36 #[vc, .int .i64 m.entry, .int .i64 m.room, vd, vn]).alloc (.cells #[.slice none 0 0, .int .i64 0, .int .i64 0, .slice none 0 0, .slice none 0 0] 41)).alloc (.cells #[.slice none 0 0, .int .i64 0, .int .i64 0, .slice none 0 0, .slice none 0 0] 41))
  have HR0 := hid (((Row.new (w.alloc (.cells #[vc, .int .i64 m.entry, .int .i64 m.room, vd, vn] 36)) 41 #[.slice none 0 0, .int .i64 0, .int .i64 0, .slice none 0 0, .slice none 0 0])).alloc (.cells #[.slice none 0 0, .int .i64 0, .int .i64 0, .slice none 0 0, .slice none 0 0] 41))
  have HO0 := hid (Row.new ((w.alloc (.cells #[vc, .int .i64 m.entry, .int .i64 m.room, vd, vn] 36)).alloc (.cells #[.slice none 0 0, .int .i64 0, .int .i64 0, .slice none 0 0, .slice none 0 0] 41)) 41 #[.slice none 0 0, .int .i64 0, .int .i64 0, .slice none 0 0, .slice none 0 0])
  simp only [World.size_alloc] at HR0 HO0
  refine (toIntS_c m.code vc _ (HC.out.on HB0.out) hlc).mono ?_
  rintro e w1 ⟨v1, rfl, hown1, hb1⟩
  obtain ⟨s1, c1, rfl⟩ := own_slice hown1
  have hz1 := hb1.size
  simp only [World.size_alloc] at hz1
  have HX1 := hid (HX0.out.on hb1)
  have HR1 := hid (HR0.out.on hb1)
  have HO1 := hid (HO0.out.on hb1)
  have HB1 := hid (HB0.out.trans (hb1.mono HB0.out.size))
  simp only [World.size_alloc] at hown1
  have HOwn1 := hid hown1
  clear hown1 hb1
  have b0 := HX1.out.cell 0
  have b1 := HX1.out.cell 1
  have b2 := HX1.out.cell 2
  have b3 := HX1.out.cell 3
  have b4 := HX1.out.cell 4
  have o0 := HO1.out.cell 0
  have o1 := HO1.out.cell 1
  have o2 := HO1.out.cell 2
  simp at b0 b1 b2 b3 b4 o0 o1 o2
  have hfo := HO1.out.free
  go_wp2_with fail
  clear b0 b1 b2 b3 b4 o0 o1 o2 hfo
  have HX2 := hid (((HX1.out.far (p := ⟨w.heap.size + 1 + 1, 0, none⟩) (by first | (simp; done) | (simp; omega)) (.slice s1 m.code.length c1)).far (p := ⟨w.heap.size + 1 + 1, 1, none⟩) (by first | (simp; done) | (simp; omega)) (.int .i64 m.entry)).far (p := ⟨w.heap.size + 1 + 1, 2, none⟩) (by first | (simp; done) | (simp; omega)) (.int .i64 m.room))
  have HR2 := hid (((HR1.out.far (p := ⟨w.heap.size + 1 + 1, 0, none⟩) (by first | (simp; done) | (simp; omega)) (.slice s1 m.code.length c1)).far (p := ⟨w.heap.size + 1 + 1, 1, none⟩) (by first | (simp; done) | (simp; omega)) (.int .i64 m.entry)).far (p := ⟨w.heap.size + 1 + 1, 2, none⟩) (by first | (simp; done) | (simp; omega)) (.int .i64 m.room))
  have HO2 := hid (((HO1.out.set 0 (.slice s1 m.code.length c1)).set 1 (.int .i64 m.entry)).set 2 (.int .i64 m.room))
  have HB2 := hid (((HB1.out.setCell (p := ⟨w.heap.size + 1 + 1, 0, none⟩) (by first | (simp; done) | (simp; omega)) (.slice s1 m.code.length c1)).setCell (p := ⟨w.heap.size + 1 + 1, 1, none⟩) (by first | (simp; done) | (simp; omega)) (.int .i64 m.entry)).setCell (p := ⟨w.heap.size + 1 + 1, 2, none⟩) (by first | (simp; done) | (simp; omega)) (.int .i64 m.room))
  have hne1 : ∀ g, (Value.slice s1 m.code.length c1).ownBlock = some g → g ≠ w.heap.size + 1 + 1 := fun g hg => by have := (HOwn1.out.lt g hg).1; omega
  have HOwn2 := hid (own_far (own_far (own_far HOwn1.out (p := ⟨w.heap.size + 1 + 1, 0, none⟩) hne1 (.slice s1 m.code.length c1)) (p := ⟨w.heap.size + 1 + 1, 1, none⟩) hne1 (.int .i64 m.entry)) (p := ⟨w.heap.size + 1 + 1, 2, none⟩) hne1 (.int .i64 m.room))
  have HNe1 := hid hne1
  clear hne1
  refine (toIntS_c m.data vd _ (HD.out.on HB2.out) hld).mono ?_
  rintro e w2 ⟨v2, rfl, hown2, hb2⟩
  obtain ⟨s2, c2, rfl⟩ := own_slice hown2
  have hz2 := hb2.size
  simp only [World.size_setCell] at hz2
  have HX3 := hid (HX2.out.on hb2)
  have HR3 := hid (HR2.out.on hb2)
  have HO3 := hid (HO2.out.on hb2)
  have HB3 := hid (HB2.out.trans (hb2.mono HB2.out.size))
  have HOwn3 := hid (own_on HOwn2.out hb2)
  simp only [World.size_setCell] at hown2
  have HOwn4 := hid hown2
  clear hown2 hb2
  have b4 := HX3.out.cell 4
  have o3 := HO3.out.cell 3
  simp at b4 o3
  have hfo := HO3.out.free
  go_wp2_with fail
  clear b4 o3 hfo
  have HR4 := hid (HR3.out.far (p := ⟨w.heap.size + 1 + 1, 3, none⟩) (by first | (simp; done) | (simp; omega)) (.slice s2 m.data.length c2))
  have HO4 := hid (HO3.out.set 3 (.slice s2 m.data.length c2))
  have HB4 := hid (HB3.out.setCell (p := ⟨w.heap.size + 1 + 1, 3, none⟩) (by first | (simp; done) | (simp; omega)) (.slice s2 m.data.length c2))
  have hne2 : ∀ g, (Value.slice s2 m.data.length c2).ownBlock = some g → g ≠ w.heap.size + 1 + 1 := fun g hg => by have := (HOwn4.out.lt g hg).1; omega
  have HOwn5 := hid (own_far HOwn3.out (p := ⟨w.heap.size + 1 + 1, 3, none⟩) HNe1.out (.slice s2 m.data.length c2))
  have HOwn6 := hid (own_far HOwn4.out (p := ⟨w.heap.size + 1 + 1, 3, none⟩) hne2 (.slice s2 m.data.length c2))
  have HNe2 := hid hne2
  clear hne2
  refine (toNameS_c m.names vn _ (HN.out.on HB4.out) hln).mono ?_
  rintro e w3 ⟨v3, rfl, hown3, hb3⟩
  obtain ⟨s3, c3, rfl⟩ := own_slice hown3
  have hz3 := hb3.size
  simp only [World.size_setCell] at hz3
  have HR5 := hid (HR4.out.on hb3)
  have HO5 := hid (HO4.out.on hb3)
  have HB5 := hid (HB4.out.trans (hb3.mono HB4.out.size))
  have HOwn7 := hid (own_on HOwn5.out hb3)
  have HOwn8 := hid (own_on HOwn6.out hb3)
  simp only [World.size_setCell] at hown3
  have HOwn9 := hid hown3
  clear hown3 hb3
  have o0 := HO5.out.cell 0
  have o1 := HO5.out.cell 1
  have o2 := HO5.out.cell 2
  have o3 := HO5.out.cell 3
  have o4 := HO5.out.cell 4
  have r0 := HR5.out.cell 0
  have r1 := HR5.out.cell 1
  have r2 := HR5.out.cell 2
  have r3 := HR5.out.cell 3
  have r4 := HR5.out.cell 4
  simp at o0 o1 o2 o3 o4 r0 r1 r2 r3 r4
  have hfo := HO5.out.free
  have hfr := HR5.out.free
  go_wp2_with fail
  clear o0 o1 o2 o3 o4 r0 r1 r2 r3 r4 hfo hfr
  have hr5 := HR5.out.far (p := ⟨w.heap.size + 1 + 1, 4, none⟩) (by first | (simp; done) | (simp; omega)) (.slice s3 m.names.length c3)
  have HB6 := hid (HB5.out.setCell (p := ⟨w.heap.size + 1 + 1, 4, none⟩) (by first | (simp; done) | (simp; omega)) (.slice s3 m.names.length c3))
  have hne3 : ∀ g, (Value.slice s3 m.names.length c3).ownBlock = some g → g ≠ w.heap.size + 1 + 1 := fun g hg => by have := (HOwn9.out.lt g hg).1; omega
  have HR6 := hid (five_row hr5 (.slice s1 m.code.length c1) m.entry m.room (.slice s2 m.data.length c2) (.slice s3 m.names.length c3))
  refine bodyPost_ret (v := .agg #[.slice s1 m.code.length c1, .int .i64 m.entry, .int .i64 m.room, .slice s2 m.data.length c2, .slice s3 m.names.length c3])
    (results_cell_row Try.results13 _ _ (w.heap.size + 1) 41 #[.slice s1 m.code.length c1, .int .i64 m.entry, .int .i64 m.room, .slice s2 m.data.length c2, .slice s3 m.names.length c3] (0, 0) _ rfl HR6.out Try.underlying41 rfl size_img) rfl ?_
  refine ⟨_, _, _, rfl, ⟨?_, ?_, ?_, fun g h1 h2 => ?_⟩, five_bel HB6.out (by omega) _ _ _ _ _⟩
  · exact own_mono (own_far5 (own_far HOwn7.out (p := ⟨w.heap.size + 1 + 1, 4, none⟩) HNe1.out _) (fun g hg => by have := (HOwn1.out.lt g hg).1; omega) _ _ _ _ _) (by omega)
  · exact own_mono (own_far5 (own_far HOwn8.out (p := ⟨w.heap.size + 1 + 1, 4, none⟩) HNe2.out _) (fun g hg => by have := (HOwn4.out.lt g hg).1; omega) _ _ _ _ _) (by omega)
  · exact own_mono (own_far5 (own_far HOwn9.out (p := ⟨w.heap.size + 1 + 1, 4, none⟩) hne3 _) (fun g hg => by have := (HOwn9.out.lt g hg).1; omega) _ _ _ _ _) (by omega)
  · have := (HOwn1.out.lt g h1).2
    have := (HOwn4.out.lt g h2).1
    omega
end Go.Proofs.Ytadcepgeodcacaa.Im
/- The laws' own helpers over names and images: szImage (how great an argument is), eqImage. -/
namespace Go.Proofs.Ytadcepgeodcacaa.Im
open Go.RowKit Pl Ft Mm In C2

/-- What a size tells: less than what was left, or -1; where it isn't, all is small enough. -/
def SzPost (left : Int) (P : Prop) (w : World) (e : Ending) (w' : World) : Prop := ∃ x : Int, e = .returned (.int .i64 x) ∧ x ≤ left ∧ -1 ≤ x ∧ (0 ≤ x → P) ∧ Below w.heap.size w w'
theorem szIntS_c (a : Option Addr) (n c : Nat) (left : Int) (w : World) (h0 : 0 ≤ left) (h1 : left ≤ 1048576) (hn : n ≤ 9223372036854775807) :
    Calls Try.prog 39 #[.slice a n c, .int .i64 left] w (SzPost left ((n : Int) ≤ left) w) := by
  by_cases h : (n : Int) ≤ left
  · have HP := hid h
    go_enter Try.func39, Try.ntmps39
    go_wp2_with fail
    go_ret
    exact ⟨left - n, rfl, by omega, by omega, fun _ => HP.out, Below.refl _ _⟩
  · go_enter Try.func39, Try.ntmps39
    go_wp2_with fail
    go_ret
    exact ⟨-1, rfl, by omega, by omega, fun h => by omega, Below.refl _ _⟩
theorem szName_c (n : Nm) (left : Int) (w : World) (h0 : 0 ≤ left) (h1 : left ≤ 1048576) (hn : n.text.size ≤ 9223372036854775807) :
    Calls Try.prog 70 #[.agg #[.string n.text, .int .i64 n.at_], .int .i64 left] w (SzPost left ((n.text.size : Int) ≤ left) w) := by
  by_cases h : (n.text.size : Int) ≤ left
  · have HP := hid h
    go_enter Try.func70, Try.ntmps70
    go_wp2_with fail
    go_ret
    exact ⟨left - n.text.size, rfl, by omega, by omega, fun _ => HP.out, (Below.refl _ _).alloc (Nat.le_refl _) _⟩
  · go_enter Try.func70, Try.ntmps70
    go_wp2_with fail
    go_ret
    exact ⟨-1, rfl, by omega, by omega, fun h => by omega, (Below.refl _ _).alloc (Nat.le_refl _) _⟩
def NamesSm (l : List Nm) (k : Nat) : Prop := ∀ x ∈ l.take k, x.text.size ≤ 1048576
theorem NamesSm.succ {l : List Nm} {k : Nat} (h : NamesSm l k) (hk : k < l.length) (ht : (l.getD k .none).text.size ≤ 1048576) : NamesSm l (k + 1) := by
  have e : l.getD k .none = l[k] := by simp [hk]
  rw [e] at ht
  intro x hx
  rw [List.take_succ_eq_append_getElem hk, List.mem_append, List.mem_singleton] at hx
  rcases hx with hx | rfl
  · exact h x hx
  · exact ht
structure SzRel (l : List Nm) (left : Int) (w : World) (k : Nat) (x : Int) (wr : World) : Prop where
  le : k ≤ l.length
  x0 : 0 ≤ x
  x1 : x ≤ left
  sm : NamesSm l k
  bel : Below w.heap.size w wr
set_option maxHeartbeats 1000000 in
theorem szNameS_c (l : List Nm) (v : Value) (left : Int) (w : World) (hr : NRd w v l) (h0 : 0 ≤ left) (h1 : left ≤ 1048576) (hn : l.length ≤ 9223372036854775807) (ht : ∀ x ∈ l, x.text.size ≤ 9223372036854775807) :
    Calls Try.prog 40 #[v, .int .i64 left] w (SzPost left ((l.length : Int) ≤ left ∧ ∀ x ∈ l, x.text.size ≤ 1048576) w) := by
  obtain ⟨a, cap, rfl, ha⟩ := hr
  have HA := hid ha
  have HT := hid ht
  clear ha ht
  by_cases h : (l.length : Int) ≤ left
  · have HP := hid h
    go_enter Try.func40, Try.ntmps40
    go_wp2_with fail
    go_loopw [1, 5] (fun v c wr => ∃ (k : Nat) (x : Int), c = .int .i64 k ∧ v = .int .i64 x ∧ SzRel l left w k x wr) (fun _ c _ => l.length - (intOf c).toNat)
    case atStart => exact ⟨0, _, rfl, rfl, by omega, by omega, by omega, fun x hx => by simp at hx, Below.refl _ _⟩
    case round =>
      obtain ⟨k, y, rfl, rfl, hrel⟩ := hrel
      have hk := hrel.le
      have hy0 := hrel.x0
      have hy1 := hrel.x1
      have HR := hid hrel
      clear hrel
      by_cases hlt : k < l.length
      · rcases HA.out with h | ⟨g, o, rfl, hg, hc⟩
        · subst h; simp at hlt
        obtain ⟨c0, c1⟩ := hc k hlt
        have q1 : wr.cell? ⟨g, o + k * 2, none⟩ = some (.string (l.getD k .none).text) := (HR.out.bel.cell (p := ⟨g, o + k * 2, none⟩) hg).trans c0
        have q2 : wr.cell? ⟨g, o + k * 2 + 1, none⟩ = some (.int .i64 (l.getD k .none).at_) := (HR.out.bel.cell (p := ⟨g, o + k * 2 + 1, none⟩) hg).trans c1
        have hts := HT.out (l.getD k .none) (by simp [hlt])
        obtain ⟨t, hte⟩ : ∃ t, (l.getD k .none).text = t := ⟨_, rfl⟩
        obtain ⟨x, hx⟩ : ∃ t, (l.getD k .none).at_ = t := ⟨_, rfl⟩
        rw [hte] at q1 hts
        rw [hx] at q2
        have HTe := hid hte
        clear hc c0 c1 hte hx
        go_wp2_with fail
        refine (szName_c ⟨t, x⟩ y _ hy0 (by omega) hts).mono ?_
        rintro e w1 ⟨z, rfl, hz1, hz0, hzp, hb⟩
        have HB := hid (HR.out.bel.trans (hb.mono HR.out.bel.size))
        have HZp := hid hzp
        clear hb hzp
        by_cases hz : 0 ≤ z
        · go_wp2_with fail
          go_roundw
          case rel => exact ⟨k + 1, z, by go_num, rfl, by omega, hz, by omega, HR.out.sm.succ hlt (by have h : (t.size : Int) ≤ y := HZp.out hz; rw [HTe.out]; omega), HB.out⟩
          case measure => simp [intOf]; omega
        · go_wp2_with fail
          go_ret
          exact ⟨-1, rfl, by omega, by omega, fun h => by omega, HB.out⟩
      · obtain rfl : k = l.length := by omega
        go_wp2_with fail
        go_ret
        exact ⟨y, rfl, hy1, by omega, fun _ => ⟨HP.out, fun x hx => HR.out.sm x (by rw [List.take_length]; exact hx)⟩, HR.out.bel⟩
  · go_enter Try.func40, Try.ntmps40
    go_wp2_with fail
    go_ret
    exact ⟨-1, rfl, by omega, by omega, fun h => by omega, Below.refl _ _⟩
/-- What the parts of an argument are at most. -/
structure Wide (m : Img) : Prop where
  c : m.code.length ≤ 9223372036854775807
  d : m.data.length ≤ 9223372036854775807
  n : m.names.length ≤ 9223372036854775807
  t : ∀ x ∈ m.names, x.text.size ≤ 9223372036854775807
set_option maxHeartbeats 1000000 in
theorem szImage_c (m : Img) (vc vd vn : Value) (left : Int) (w : World) (hc : Rd w vc m.code) (hd : Rd w vd m.data) (hn : NRd w vn m.names) (hw : Wide m) (h0 : 0 ≤ left) (h1 : left ≤ 1048576) :
    Calls Try.prog 11 #[imgVal vc vd vn m, .int .i64 left] w (SzPost left (Sm m) w) := by
  obtain ⟨ac, cc, rfl⟩ := rd_slice hc
  obtain ⟨ad, cd, rfl⟩ := rd_slice hd
  obtain ⟨an, cn, rfl⟩ := nrd_slice hn
  have HN := hid hn
  have hlc := hw.c
  have hld := hw.d
  have hln := hw.n
  have HW := hid hw
  clear hc hd hn hw
  unfold imgVal
  have HX0 := hid (Row.new w 36 #[.slice ac m.code.length cc, .int .i64 m.entry, .int .i64 m.room, .slice ad m.data.length cd, .slice an m.names.length cn])
  have HB0 := hid ((Below.refl w.heap.size w).alloc (Nat.le_refl _) (.cells #[.slice ac m.code.length cc, .int .i64 m.entry, .int .i64 m.room, .slice ad m.data.length cd, .slice an m.names.length cn] 36))
  go_enter Try.func11, Try.ntmps11
  go_wp2_with fail
  refine (szIntS_c _ _ _ _ _ h0 h1 hlc).mono ?_
  rintro e w1 ⟨x, rfl, hx1, hx0, hxp, hb1⟩
  have HB1 := hid (HB0.out.trans (hb1.mono HB0.out.size))
  have HX1 := hid (HX0.out.on hb1)
  have HP1 := hid hxp
  have hz1 := hb1.size
  simp only [World.size_alloc] at hz1
  clear hb1 hxp
  by_cases hx : 0 ≤ x
  · have b3 := HX1.out.cell 3
    simp at b3
    go_wp2_with fail
    refine (szIntS_c _ _ _ _ _ hx (by omega) hld).mono ?_
    rintro e w2 ⟨y, rfl, hy1, hy0, hyp, hb2⟩
    have HB2 := hid (HB1.out.trans (hb2.mono HB1.out.size))
    have HX2 := hid (HX1.out.on hb2)
    have HP2 := hid hyp
    have hz2 := hb2.size
    clear hb2 hyp b3
    by_cases hy : 0 ≤ y
    · have b4 := HX2.out.cell 4
      simp at b4
      go_wp2_with fail
      refine (szNameS_c m.names _ _ _ (HN.out.on HB2.out) hy (by omega) hln HW.out.t).mono ?_
      rintro e w3 ⟨z, rfl, hz1, hz0, hzp, hb3⟩
      have HB3 := hid (HB2.out.trans (hb3.mono HB2.out.size))
      have HP3 := hid hzp
      clear hb3 hzp b4
      by_cases hz : 0 ≤ z
      · go_wp2_with fail
        go_ret
        exact ⟨z, rfl, by omega, by omega, fun _ => ⟨by have := HP1.out hx; omega, by have := HP2.out hy; omega, by have := (HP3.out hz).1; omega, (HP3.out hz).2⟩, HB3.out⟩
      · go_wp2_with fail
        go_ret
        exact ⟨-1, rfl, by omega, by omega, fun h => by omega, HB3.out⟩
    · go_wp2_with fail
      go_ret
      exact ⟨-1, rfl, by omega, by omega, fun h => by omega, HB2.out⟩
  · go_wp2_with fail
    go_ret
    exact ⟨-1, rfl, by omega, by omega, fun h => by omega, HB1.out⟩
theorem eqName_c (n : Nm) (w : World) : Calls Try.prog 77 #[.agg #[.string n.text, .int .i64 n.at_], .agg #[.string n.text, .int .i64 n.at_]] w fun e w' => e = .returned (.bool true) ∧ Below w.heap.size w w' := by
  go_enter Try.func77, Try.ntmps77
  go_wp2_with fail
  go_ret
  exact ⟨rfl, by have := (Below.refl w.heap.size w).alloc (Nat.le_refl _) (.cells #[.string n.text, .int .i64 n.at_] 77); exact this.alloc this.size _⟩
end Go.Proofs.Ytadcepgeodcacaa.Im
/- The laws' own helpers over names and images: eqNameS, eqImage. -/
namespace Go.Proofs.Ytadcepgeodcacaa.Im
open Go.RowKit Pl Ft Mm In C2

set_option maxHeartbeats 1000000 in
theorem eqNameS_c (l : List Nm) (va vb : Value) (w : World) (ha : NRd w va l) (hb : NRd w vb l) (hl : l.length ≤ 1048576) :
    Calls Try.prog 47 #[va, vb] w fun e w' => e = .returned (.bool true) ∧ Below w.heap.size w w' := by
  obtain ⟨a, ca, rfl, ha⟩ := ha
  obtain ⟨b, cb, rfl, hb⟩ := hb
  have HA := hid ha
  have HB := hid hb
  clear ha hb
  go_enter Try.func47, Try.ntmps47
  go_wp2_with fail
  go_loopw [5] (fun c wr => ∃ k : Nat, c = .int .i64 k ∧ k ≤ l.length ∧ Below w.heap.size w wr) (fun c _ => l.length - (intOf c).toNat)
  case atStart => exact ⟨0, rfl, by omega, Below.refl _ _⟩
  case round =>
    obtain ⟨k, rfl, hk, hbel⟩ := hrel
    have HBe := hid hbel
    have hz := hbel.size
    clear hbel
    by_cases hlt : k < l.length
    · rcases HA.out with h | ⟨g, o, rfl, hg, hc⟩
      · subst h; simp at hlt
      rcases HB.out with h | ⟨g2, o2, rfl, hg2, hc2⟩
      · subst h; simp at hlt
      obtain ⟨c0, c1⟩ := hc k hlt
      obtain ⟨d0, d1⟩ := hc2 k hlt
      have q0 : wr.cell? ⟨g, o + k * 2, none⟩ = some (.string (l.getD k .none).text) := (HBe.out.cell (p := ⟨g, o + k * 2, none⟩) hg).trans c0
      have q1 : wr.cell? ⟨g, o + k * 2 + 1, none⟩ = some (.int .i64 (l.getD k .none).at_) := (HBe.out.cell (p := ⟨g, o + k * 2 + 1, none⟩) hg).trans c1
      have r0 : wr.cell? ⟨g2, o2 + k * 2, none⟩ = some (.string (l.getD k .none).text) := (HBe.out.cell (p := ⟨g2, o2 + k * 2, none⟩) hg2).trans d0
      have r1 : wr.cell? ⟨g2, o2 + k * 2 + 1, none⟩ = some (.int .i64 (l.getD k .none).at_) := (HBe.out.cell (p := ⟨g2, o2 + k * 2 + 1, none⟩) hg2).trans d1
      obtain ⟨t, hte⟩ : ∃ t, (l.getD k .none).text = t := ⟨_, rfl⟩
      obtain ⟨x, hx⟩ : ∃ t, (l.getD k .none).at_ = t := ⟨_, rfl⟩
      rw [hte] at q0 r0
      rw [hx] at q1 r1
      have hk1 : (k : Int) < l.length := by omega
      have hk0 : 0 ≤ (k : Int) := by omega
      clear hc hc2 c0 c1 d0 d1 hte hx
      go_wp2_with fail
      go_region_with (go_at_call 77; refine (eqName_c ⟨t, x⟩ _).mono ?_; rintro e w1 ⟨rfl, hb1⟩)
      all_goals
        have HB1 := hid (HBe.out.drew.trans (hb1.mono hz))
        clear hb1 q0 q1 r0 r1
        go_wp2_with fail
        go_roundw
        case rel => exact ⟨k + 1, by go_num, by omega, HB1.out⟩
        case measure => simp [intOf]; omega
    · obtain rfl : k = l.length := by omega
      go_wp2_with fail
      go_ret
      exact ⟨rfl, HBe.out⟩
set_option maxHeartbeats 1000000 in
theorem eqImage_c (m : Img) (vc vd vn vc' vd' vn' : Value) (w : World) (ha : ICells w vc vd vn m) (hb : ICells w vc' vd' vn' m) (hs : Sm m) :
    Calls Try.prog 16 #[imgVal vc vd vn m, imgVal vc' vd' vn' m] w fun e w' => e = .returned (.bool true) ∧ Below w.heap.size w w' := by
  have hlc := hs.c
  have hld := hs.d
  have hln := hs.n
  clear hs
  have HA := hid ha
  have HB := hid hb
  clear ha hb
  have ha1 := (Below.refl w.heap.size w).alloc (Nat.le_refl _) (.cells #[vc, .int .i64 m.entry, .int .i64 m.room, vd, vn] 41)
  have HB0 := hid (ha1.alloc ha1.size (.cells #[vc', .int .i64 m.entry, .int .i64 m.room, vd', vn'] 41))
  have HX0 := hid ((Row.new w 41 #[vc, .int .i64 m.entry, .int .i64 m.room, vd, vn]).alloc (.cells #[vc', .int .i64 m.entry, .int .i64 m.room, vd', vn'] 41))
  have HY0 := hid (Row.new (w.alloc (.cells #[vc, .int .i64 m.entry, .int .i64 m.room, vd, vn] 41)) 41 #[vc', .int .i64 m.entry, .int .i64 m.room, vd', vn'])
  simp only [World.size_alloc] at HY0
  clear ha1
  unfold imgVal
  go_enter Try.func16, Try.ntmps16
  go_wp2_with fail
  refine (eqIntS_b m.code vc vc' _ (HA.out.on HB0.out).c (HB.out.on HB0.out).c (by omega)).mono ?_
  rintro e w1 ⟨rfl, hb1⟩
  have HB1 := hid (HB0.out.trans (hb1.mono HB0.out.size))
  have HX1 := hid (HX0.out.on hb1)
  have HY1 := hid (HY0.out.on hb1)
  clear hb1
  have x1 := HX1.out.cell 1
  have x2 := HX1.out.cell 2
  have x3 := HX1.out.cell 3
  have y1 := HY1.out.cell 1
  have y2 := HY1.out.cell 2
  have y3 := HY1.out.cell 3
  simp at x1 x2 x3 y1 y2 y3
  go_wp2_with fail
  refine (eqIntS_b m.data vd vd' _ (HA.out.on HB1.out).d (HB.out.on HB1.out).d (by omega)).mono ?_
  rintro e w2 ⟨rfl, hb2⟩
  have HB2 := hid (HB1.out.trans (hb2.mono HB1.out.size))
  have HX2 := hid (HX1.out.on hb2)
  have HY2 := hid (HY1.out.on hb2)
  clear hb2 x1 x2 x3 y1 y2 y3
  have x4 := HX2.out.cell 4
  have y4 := HY2.out.cell 4
  simp at x4 y4
  go_wp2_with fail
  refine (eqNameS_c m.names vn vn' _ (HA.out.on HB2.out).n (HB.out.on HB2.out).n hln).mono ?_
  rintro e w3 ⟨rfl, hb3⟩
  have HB3 := hid (HB2.out.trans (hb3.mono HB2.out.size))
  clear hb3 x4 y4
  go_wp2_with fail
  go_ret
  exact ⟨rfl, HB3.out⟩
end Go.Proofs.Ytadcepgeodcacaa.Im
/- Arguments opened: an image that came in reads as an image; a list of numbers as numbers. -/
namespace Go.Proofs.Ytadcepgeodcacaa.Im
open Go.RowKit Pl Ft Mm In C2
open Go.ChangeShapes Go.WideShapes Go.Deep

section
variable {H : Type} {enc : TypeId × Value → H} {P : Program} {w : World} {base : Nat} {spare : Nat → Bool} {held : Bool}
/-- A struct of one-cell fields by value: its cells, and what each reads as. -/
theorem fields_of {r : Reach} {b0 : Nat} {t : TypeId} {fs : Array Field} {v : Value} {d : DataW H} {p : List MemPlace} (hs : P.underlying t = some (.struct fs)) (hone : oneCellFields P fs = true)
    (hv : Value.okWide P w r b0 t v) (h : DataW.Trod enc P w base spare held t v d p) :
    ∃ cs : Array Value, v = .agg cs ∧ cs.size = P.cellsOf t ∧ ∀ (i : Nat) (f : Field) (u : Value), fs[i]? = some f → cs[i]? = some u → ∃ n y, DataW.trod enc P w base spare held n f.type [u] = some y := by
  obtain ⟨cs, rfl, hsz⟩ := okWide_struct hs hv
  obtain ⟨fuel, hf⟩ := h
  obtain ⟨xs, n, _, _, _, hlen, hx⟩ := DataW.trod_struct hs hf
  refine ⟨cs, rfl, hsz, fun i f u hi hu => ?_⟩
  obtain ⟨o, k⟩ := hone_of hone i f hi
  have h1 := hx i f hi
  have hil : i < xs.length := by rw [hlen]; exact (Array.getElem?_eq_some_iff.1 hi).1
  rw [List.getElem?_eq_getElem hil, k, o] at h1
  have hc : ((Value.agg cs).cells.toList.drop i).take 1 = [u] := by
    have hu' : cs.toList[i]? = some u := by simpa using hu
    have hl : i < cs.toList.length := (List.getElem?_eq_some_iff.1 hu').1
    have e : cs.toList.drop i = cs.toList[i] :: cs.toList.drop (i + 1) := List.drop_eq_getElem_cons hl
    have e2 : cs.toList[i] = u := (List.getElem?_eq_some_iff.1 hu').2
    simp only [Value.cells]
    rw [e, e2]
    rfl
  rw [hc] at h1
  exact ⟨n, _, h1⟩
/-- A slice of numbers that came in. -/
theorem ints_of {t e : TypeId} {fuel : Nat} {u : Value} {x : DataW H × List MemPlace} (ht : P.underlying t = some (.slice e)) (he : P.underlying e = some (.int .i64)) (hc : P.cellsOf e = 1)
    (h : DataW.trod enc P w base spare held fuel t [u] = some x) : ∃ xs : List Int, Rd w u xs ∧ CapOk u ∧ xs.length ≤ maxLen := by
  rcases open_ints ht he hc h with ⟨hcs, _⟩ | ⟨a, len, cap, zs, hcs, _, hl, hm, hz, _, hcell, _⟩
  · simp only [List.cons.injEq, and_true] at hcs
    subst hcs
    exact ⟨[], Rd.nil _ _, ⟨_, _, _, rfl, Nat.le_refl _⟩, Nat.zero_le _⟩
  · simp only [List.cons.injEq, and_true] at hcs
    subst hcs
    have hlz : len ≤ zs.length := by rw [hz]; split <;> omega
    have htl : (zs.take len).length = len := by rw [List.length_take]; omega
    refine ⟨zs.take len, ?_, ⟨_, _, _, rfl, hl⟩, by omega⟩
    have := rd_of_cells (w := w) (ad := a) (xs := zs.take len) (cap := cap) (fun j hj => by
      rw [htl] at hj
      rw [hcell j (by omega)]
      congr 2
      rw [List.getD_eq_getElem?_getD, List.getD_eq_getElem?_getD, List.getElem?_take_of_lt hj])
    rwa [htl] at this
/-- A slice of names that came in. -/
theorem names_of {t e : TypeId} {f0 f1 : Field} {fuel : Nat} {u : Value} {x : DataW H × List MemPlace} (ht : P.underlying t = some (.slice e)) (he : P.underlying e = some (.struct #[f0, f1])) (hone : oneCellFields P #[f0, f1] = true) (hC : P.cellsOf e = 2)
    (h0 : P.underlying f0.type = some .string) (h1 : P.underlying f1.type = some (.int .i64)) (h : DataW.trod enc P w base spare held fuel t [u] = some x) :
    ∃ l : List Nm, NRd w u l ∧ CapOk u ∧ l.length ≤ maxLen ∧ ∀ n ∈ l, n.text.size ≤ maxLen := by
  rcases open_slice ht h with ⟨hcs, _⟩ | ⟨a, len, cap, m, n, D, Pl, hcs, _, hl, hm, hmm, _, hi⟩
  · simp only [List.cons.injEq, and_true] at hcs
    subst hcs
    exact ⟨[], NRd.nil _ _, ⟨_, _, _, rfl, Nat.le_refl _⟩, Nat.zero_le _, fun n hn => by cases hn⟩
  · simp only [List.cons.injEq, and_true] at hcs
    subst hcs
    have hlm : len ≤ m := by rw [hmm]; split <;> omega
    have each : ∀ i, ∃ q : Nm, i < len → w.cell? (a.add (i * 2)) = some (.string q.text) ∧ w.cell? (a.add (i * 2 + 1)) = some (.int .i64 q.at_) ∧ q.text.size ≤ maxLen := by
      intro i
      by_cases hil : i < len
      · obtain ⟨cs', hc, htr⟩ := hi i (by omega)
        rw [hC] at hc
        obtain ⟨_, hcl, hat⟩ := World.cells?_some hc
        obtain ⟨ys, k, _, _, _, hyl, hf⟩ := DataW.trod_struct he htr
        obtain ⟨o0, k0⟩ := hone_of hone 0 f0 rfl
        obtain ⟨o1, k1⟩ := hone_of hone 1 f1 rfl
        have g0 := hf 0 f0 rfl
        have g1 := hf 1 f1 rfl
        match cs', hcl with
        | [u0, u1], _ =>
          rw [o0, k0] at g0
          rw [o1, k1] at g1
          rw [List.getElem?_eq_getElem (by rw [hyl]; simp)] at g0 g1
          obtain ⟨s, hs, _, hsz⟩ := DataW.trod_string h0 g0
          obtain ⟨z, hz, _, _⟩ := DataW.trod_int h1 g1
          simp at hs hz
          subst hs hz
          have a0 := hat 0 (by decide)
          have a1 := hat 1 (by decide)
          simp only [List.getElem?_cons_zero, List.getElem?_cons_succ] at a0 a1
          refine ⟨⟨s, z⟩, fun _ => ⟨a0, ?_, hsz⟩⟩
          have e : (a.add (i * 2)).add 1 = a.add (i * 2 + 1) := by
            unfold Addr.add
            by_cases hi0 : i * 2 = 0 <;> simp [hi0] <;> omega
          rw [← e]
          exact a1
      · exact ⟨.none, fun hlt => absurd hlt hil⟩
    obtain ⟨f, hf⟩ := Classical.skolem.1 each
    have hlen : ((List.range len).map f).length = len := by simp
    have hget : ∀ j, j < len → ((List.range len).map f).getD j .none = f j := by
      intro j hj
      simp [hj]
    refine ⟨(List.range len).map f, ?_, ⟨_, _, _, rfl, hl⟩, by omega, ?_⟩
    · have := nrd_of_cells (w := w) (ad := a) (l := (List.range len).map f) (cap := cap) (fun j hj => by
        rw [hlen] at hj
        rw [hget j hj]
        exact ⟨(hf j hj).1, (hf j hj).2.1⟩)
      rwa [hlen] at this
    · intro n hn
      obtain ⟨j, hj, rfl⟩ := List.mem_map.1 hn
      exact (hf j (List.mem_range.1 hj)).2.2
end
theorem cells_img : Try.prog.cellsOf 36 = 5 := by kernel_rfl
theorem cells_int : Try.prog.cellsOf 3 = 1 := by kernel_rfl
theorem cells_name : Try.prog.cellsOf 109 = 2 := by kernel_rfl
set_option maxRecDepth 100000 in
/-- An image that came in. -/
theorem image_of {H : Type} {enc : TypeId × Value → H} {w : World} {b0 base : Nat} {spare : Nat → Bool} {held : Bool} {r : Reach} {v : Value} {d : DataW H} {p : List MemPlace}
    (hv : Value.okWide Try.prog w r b0 36 v) (h : DataW.Trod enc Try.prog w base spare held 36 v d p) :
    ∃ (m : Img) (vc vd vn : Value), v = imgVal vc vd vn m ∧ Rd w vc m.code ∧ Rd w vd m.data ∧ NRd w vn m.names ∧ Wide m := by
  obtain ⟨cs, rfl, hsz, hf⟩ := fields_of Try.underlying36 (by kernel_rfl) hv h
  rw [cells_img] at hsz
  obtain ⟨l⟩ := cs
  match l, hsz with
  | [u0, u1, u2, u3, u4], _ =>
    obtain ⟨_, _, t0⟩ := hf 0 _ u0 rfl rfl
    obtain ⟨_, _, t1⟩ := hf 1 _ u1 rfl rfl
    obtain ⟨_, _, t2⟩ := hf 2 _ u2 rfl rfl
    obtain ⟨_, _, t3⟩ := hf 3 _ u3 rfl rfl
    obtain ⟨_, _, t4⟩ := hf 4 _ u4 rfl rfl
    obtain ⟨xs, hx, _, hxl⟩ := ints_of Try.underlying23 Try.underlying3 cells_int t0
    obtain ⟨e, he, _, _⟩ := DataW.trod_int Try.underlying3 t1
    obtain ⟨r, hr, _, _⟩ := DataW.trod_int Try.underlying3 t2
    obtain ⟨ys, hy, _, hyl⟩ := ints_of Try.underlying23 Try.underlying3 cells_int t3
    obtain ⟨ns, hn, _, hnl, hnt⟩ := names_of Try.underlying34 Try.underlying109 (by kernel_rfl) cells_name Try.underlying9 Try.underlying3 t4
    simp at he hr
    subst he hr
    unfold maxLen at hxl hyl hnl hnt
    exact ⟨⟨xs, e, r, ys, ns⟩, u0, u3, u4, rfl, hx, hy, hn, ⟨hxl, hyl, hnl, hnt⟩⟩
end Go.Proofs.Ytadcepgeodcacaa.Im
/- InsAt of the model; the exact law of InsAt: the walk. -/
namespace Go.Proofs.Ytadcepgeodcacaa.C2
open Go.RowKit Pl Ft Mm In Im

theorem sinsAt_no {code : List Int} {at_ : Int} (h : (isCode code && (decide (0 ≤ at_) && decide (at_ < code.length))) = false) : sinsAt code at_ = none := by
  unfold sinsAt
  rw [h, if_neg (by simp)]
theorem sinsAt_yes {code : List Int} {at_ : Int} (h : (isCode code && (decide (0 ≤ at_) && decide (at_ < code.length))) = true) : sinsAt code at_ = sread code at_.toNat := by
  unfold sinsAt
  rw [if_pos h]
set_option maxHeartbeats 1000000 in
theorem sInsAt_c (code : List Int) (v : Value) (at_ : Int) (w : World) (hr : Rd w v code) (hlen : code.length ≤ 4611686018427387904) :
    Calls Try.prog 8 #[v, .int .i64 at_] w (InsPost (sinsAt code at_) w) := by
  have HRd := hid hr
  obtain ⟨a, cap, rfl, _⟩ := hr
  have HB0 := hid ((Below.refl w.heap.size w).alloc (Nat.le_refl _) (.cells #[.int .i64 0, .int .i64 0, .int .i64 0, .int .i64 0] 27))
  have HO0 := hid (Row.new w 27 #[.int .i64 0, .int .i64 0, .int .i64 0, .int .i64 0])
  have HRd0 := hid (HRd.out.on HB0.out)
  cases hc : isCode code
  · have HC := hid hc
    have HNo := hid (sinsAt_no (code := code) (at_ := at_) (by rw [hc]; rfl))
    clear hc
    go_enter Try.func8, Try.ntmps8
    go_wp2_with (go_at_call 29; refine (sIsCode_c code _ _ HRd0.out hlen).mono ?_; rw [HC.out]; rintro e w' ⟨rfl, rfl⟩)
    refine bodyPost_ret (v := .tuple #[.agg z4, .bool false]) ?_ rfl ?_
    · exact results_cell_tmp Try.results8 _ _ w.heap.size z4 _ rfl HO0.out Try.underlying27 size_four
    exact ⟨by rw [HNo.out]; rfl, HB0.out⟩
  have HC := hid hc
  clear hc
  cases hin : inRange at_ 0 ((code.length : Int) - 1)
  · have HNo := hid (sinsAt_no (code := code) (at_ := at_) (by rw [← inRange_place, hin]; simp))
    have HIn := hid hin
    clear hin
    go_enter Try.func8, Try.ntmps8
    go_wp2_with (first | (go_at_call 29; refine (sIsCode_c code _ _ HRd0.out hlen).mono ?_; rw [HC.out]; rintro e w' ⟨rfl, rfl⟩) | (go_at_call 30; refine (inR_c _ _ _ _).mono ?_; rw [HIn.out]; rintro e w' ⟨rfl, rfl⟩))
    refine bodyPost_ret (v := .tuple #[.agg z4, .bool false]) ?_ rfl ?_
    · exact results_cell_tmp Try.results8 _ _ w.heap.size z4 _ rfl HO0.out Try.underlying27 size_four
    exact ⟨by rw [HNo.out]; rfl, HB0.out⟩
  have HYes := hid (sinsAt_yes (code := code) (at_ := at_) (by rw [HC.out, ← inRange_place, hin]; rfl))
  have hbd : 0 ≤ at_ ∧ at_ < code.length := by
    rw [inRange_place] at hin
    simpa using hin
  have HIn := hid hin
  clear hin
  obtain ⟨h0, h1⟩ := hbd
  obtain ⟨k, rfl⟩ := Int.eq_ofNat_of_zero_le h0
  have hl2 : code.length ≤ 2000 ∧ code.all isByte = true := by simpa [isCode] using HC.out
  obtain ⟨hl2, hby⟩ := hl2
  have HBy := hid hby
  clear hby
  go_enter Try.func8, Try.ntmps8
  go_wp2_with (first | (go_at_call 29; refine (sIsCode_c code _ _ HRd0.out hlen).mono ?_; rw [HC.out]; rintro e w' ⟨rfl, rfl⟩) | (go_at_call 30; refine (inR_c _ _ _ _).mono ?_; rw [HIn.out]; rintro e w' ⟨rfl, rfl⟩))
  refine (sRead_c code _ k _ HRd0.out HBy.out hl2 (by omega)).mono ?_
  rintro e w1 ⟨⟨jop, ja, jb, jn⟩, rfl, hi, hb1⟩
  have HB1 := hid (HB0.out.trans (hb1.mono (by simp)))
  have HO1 := hid (HO0.out.on hb1)
  have hz1 := hb1.size
  simp only [World.size_alloc] at hz1
  have hw01 : w.heap.size < w1.heap.size := by omega
  have HI := hid hi
  clear hb1 hi
  unfold IIns.val
  simp only
  have o0 := HO1.out.cell 0
  have o1 := HO1.out.cell 1
  have o2 := HO1.out.cell 2
  have o3 := HO1.out.cell 3
  simp at o0 o1 o2 o3
  have hfo := HO1.out.free
  cases ho : sread code k with
  | none =>
    have HOo := hid ho
    clear ho
    simp only [Option.isSome_none]
    go_wp2_with fail
    clear o0 o1 o2 o3 hfo
    have hx1 := four_bel HB1.out (Nat.le_refl _) (.int .i64 0) (.int .i64 0) (.int .i64 0) (.int .i64 0)
    refine bodyPost_ret (v := .tuple #[.agg z4, .bool false]) ?_ rfl ?_
    · exact results_cell_tmp Try.results8 _ _ w.heap.size z4 _ rfl ((four_row HO1.out 0 0 0 0).alloc _) Try.underlying27 size_four
    exact ⟨by rw [HYes.out, Int.toNat_natCast, HOo.out]; rfl, hx1.alloc hx1.size _⟩
  | some i =>
    obtain rfl := HI.out i ho
    have HOo := hid ho
    clear ho
    simp only [Option.isSome_some]
    go_wp2_with fail
    clear o0 o1 o2 o3 hfo
    have hx1 := four_bel HB1.out (Nat.le_refl _) (.int .i64 jop) (.int .i64 ja) (.int .i64 jb) (.int .i64 jn)
    refine bodyPost_ret (v := .tuple #[.agg (i4 ⟨jop, ja, jb, jn⟩), .bool true]) ?_ rfl ?_
    · exact results_cell_tmp Try.results8 _ _ w.heap.size (i4 ⟨jop, ja, jb, jn⟩) _ rfl ((four_row HO1.out jop ja jb jn).alloc _) Try.underlying27 size_four
    exact ⟨by rw [HYes.out, Int.toNat_natCast, HOo.out]; rfl, hx1.alloc hx1.size _⟩
end Go.Proofs.Ytadcepgeodcacaa.C2
/- The exact law of InsAt: the walk. -/
namespace Go.Proofs.Ytadcepgeodcacaa.C2
open Go.RowKit Pl Ft Mm In Im

end Go.Proofs.Ytadcepgeodcacaa.C2
/- The draws of instructions (anyIns, DrawInsOk, DrawInsLong): what they return. -/
namespace Go.Proofs.Ytadcepgeodcacaa.Src
open Go.RowKit Pl Ft Mm C2

end Go.Proofs.Ytadcepgeodcacaa.Src
/- The draws of InsOk and InsPut. -/
namespace Go.Proofs.Ytadcepgeodcacaa.Src
open Go.RowKit Pl Ft Mm C2

theorem results_cell_tmp2 {fn : Func} {p r : Tmp} {t : TypeId} (h : fn.results = #[.cell p t, .tmp r]) (tmps : Array Value) (w : World) (g : Nat) (cs : Array Value) (fs : Array Field)
    (hp : tmps.getD p undef = .pointer (some ⟨g, 0, none⟩)) (h1 : Row w g t cs) (hu : Try.prog.underlying t = some (.struct fs)) (hi : (Try.prog.info? t).map (·.size) = some cs.size) :
    (results fn tmps).run Try.prog w = .ok (.tuple #[.agg cs, tmps.getD r undef]) w := by
  have hp' : tmps[p]?.getD undef = .pointer (some ⟨g, 0, none⟩) := by simpa using hp
  simp [results, h, hp', asAddr, run_loadVar_row w g t t cs (0, 0) _ h1 hu rfl hi]
end Go.Proofs.Ytadcepgeodcacaa.Src
/- FnInsOk: the walk. -/
namespace Go.Proofs.Ytadcepgeodcacaa.C2
open Go.RowKit Pl Ft Mm Src In

theorem ins_fields : Try.prog.underlying 27 = some (.struct (Try.prog.fieldsOf 27)) := by kernel_rfl
theorem ins_held : Try.prog.stoodInHeld 27 = false := by kernel_rfl
theorem ins_guard : Try.prog.eqGuardType Try.prog.depth 27 = false := by kernel_rfl
theorem eql_ins (i : IIns) (w : World) : (binOp .eql 27 (.agg #[.int .i64 i.op, .int .i64 i.a, .int .i64 i.b, .int .i64 i.n]) (.agg #[.int .i64 i.op, .int .i64 i.a, .int .i64 i.b, .int .i64 i.n])).run Try.prog w = .ok (.bool true) w := by
  have hu := ins_fields.symm.trans Try.underlying27
  simp only [Option.some.injEq, TypeDesc.struct.injEq] at hu
  rw [run_eql_struct, run_equalIn_agg _ _ _ _ _ ins_fields ins_held, hu]
  simp [Op.eqFields, part, go_sem, Try.underlying3]
theorem guard_ins (op : BinOp) (a b : Operand) (xs ys : Array Value) (w : World) : (eqGuard op 27 a b (.agg xs) (.agg ys)).run Try.prog w = .ok () w := run_eqGuard_agg w op 27 a b xs ys ins_guard
theorem zeros_ints (n : Nat) : (madeCells (Value.cells (.int .i64 0)) (n * 1)).toList = ints (List.replicate n 0) := by
  have e : Value.cells (.int .i64 0) = #[.int .i64 0] := rfl
  rw [e, toList_madeCells_one, Nat.mul_one]
  simp [ints]
theorem own_cap2 {w : World} {base : Nat} {e : TypeId} {size : Nat} {v : Value} {n : Nat} {xs : List Value} (h : w.ownsRow base e size v n xs) : ∀ a k c, v = .slice a k c → k ≤ c := by
  intro a k c hv
  rcases h.2 with ⟨rfl, h0⟩ | ⟨g, cap, cur, rfl, _, _, hc, _⟩
  · simp only [Value.slice.injEq] at hv; omega
  · simp only [Value.slice.injEq] at hv; omega
theorem insPut_pos {i : IIns} {at_ : Int} {l : List Int} (h : insPut i at_ = some l) : 0 < l.length ∧ l.length ≤ 5 := by
  unfold insPut at h
  cases hf : formOf i with
  | none => rw [hf] at h; cases h
  | some f =>
    rw [hf] at h
    simp only at h
    split at h
    · split at h
      · have hs := (form_bounds hf).size
        simp only [Option.some.injEq] at h
        have h1 := putList_len (letters f.follows) i (at_ + longOf (letters f.follows))
        have h2 := longOf_bd (letters f.follows)
        rw [letters_len] at h2
        rw [← h]
        simp only [List.length_cons]
        omega
      · cases h
    · cases h
end Go.Proofs.Ytadcepgeodcacaa.C2
/- FnInsPut: the walk. -/
namespace Go.Proofs.Ytadcepgeodcacaa.C2
open Go.RowKit Pl Ft Mm Src In

theorem sameInts_of (l : List Int) (va vb : Value) (w : World) {A B : Nat} (ha : w.ownsRow A 3 1 va l.length (ints l)) (hb : w.ownsRow B 3 1 vb l.length (ints l)) (hl : l.length ≤ 1000) :
    Calls Try.prog 10 #[va, vb] w fun e w' => e = .returned (.bool true) ∧ Below w.heap.size w w' := SameInts_b l va vb w (.of_own ha) (.of_own hb) (by omega)
end Go.Proofs.Ytadcepgeodcacaa.C2
/- Reading the bytes of an image: what stands where an image would have its parts; of an image's own bytes it is the image. No call is spoken of here. -/
namespace Go.Proofs.Ytadcepgeodcacaa.Im
open Go.RowKit Pl Ft Mm In C2

def cut (l : List Int) (p n : Nat) : List Int := (l.drop p).take n
def numAt (l : List Int) (p n : Nat) : Int := numIn (cut l p n)
def byteOf (x : Int) : UInt8 := UInt8.ofNat x.toNat
def textOf (l : List Int) : ByteArray := ⟨(l.map byteOf).toArray⟩
/-- A step behind n numbers: to the end at most (the program's), or beyond (the model's, which is bad then). -/
def nameLen (l : List Int) (p : Nat) : Nat := (numAt l p 1).toNat
def nameU (l : List Int) (p : Nat) : Nm := ⟨textOf (cut l (p + 1) (nameLen l p)), numAt l (p + 1 + nameLen l p) 2⟩
def nameEnd (l : List Int) (p : Nat) : Nat := p + 1 + nameLen l p + 2
def namesEnd (l : List Int) (p : Nat) : Nat → Nat
  | 0 => p
  | k + 1 => nameEnd l (namesEnd l p k)
def namesU (l : List Int) (p : Nat) (k : Nat) : List Nm := (List.range k).map fun j => nameU l (namesEnd l p j)
def nameCount (l : List Int) : Nat := (numAt l 8 1).toNat
def codeLen (l : List Int) : Nat := (numAt l 2 2).toNat
def dataLen (l : List Int) : Nat := (numAt l 7 1).toNat
def codeAt (l : List Int) : Nat := namesEnd l 9 (nameCount l)
def fin (l : List Int) : Nat := codeAt l + codeLen l + dataLen l
def imageU (l : List Int) : Img := ⟨cut l (codeAt l) (codeLen l), numAt l 4 2, numAt l 6 1, cut l (codeAt l + codeLen l) (dataLen l), namesU l 9 (nameCount l)⟩
/-- The program's. -/
def aft (l : List Int) (p n : Nat) : Nat := min (p + n) l.length
def nameP (l : List Int) (p : Nat) : Nm := ⟨textOf (cut l (aft l p 1) (nameLen l p)), numAt l (aft l (aft l p 1) (nameLen l p)) 2⟩
def namePEnd (l : List Int) (p : Nat) : Nat := aft l (aft l (aft l p 1) (nameLen l p)) 2
def namesPEnd (l : List Int) (p : Nat) : Nat → Nat
  | 0 => p
  | k + 1 => namePEnd l (namesPEnd l p k)
def namesP (l : List Int) (p : Nat) (k : Nat) : List Nm := (List.range k).map fun j => nameP l (namesPEnd l p j)
def p2 (l : List Int) : Nat := aft l 0 2
def p4 (l : List Int) : Nat := aft l (p2 l) 2
def p6 (l : List Int) : Nat := aft l (p4 l) 2
def p7 (l : List Int) : Nat := aft l (p6 l) 1
def p8 (l : List Int) : Nat := aft l (p7 l) 1
def p9 (l : List Int) : Nat := aft l (p8 l) 1
def countP (l : List Int) : Nat := (numAt l (p8 l) 1).toNat
def pCode (l : List Int) : Nat := namesPEnd l (p9 l) (countP l)
def codeLenP (l : List Int) : Nat := (numAt l (p2 l) 2).toNat
def dataLenP (l : List Int) : Nat := (numAt l (p7 l) 1).toNat
def imageP (l : List Int) : Img := ⟨cut l (pCode l) (codeLenP l), numAt l (p4 l) 2, numAt l (p6 l) 1, cut l (aft l (pCode l) (codeLenP l)) (dataLenP l), namesP l (p9 l) (countP l)⟩
theorem nameEnd_le (l : List Int) (p : Nat) : p + 3 ≤ nameEnd l p := by unfold nameEnd; omega
theorem namesEnd_mono (l : List Int) (p : Nat) (k : Nat) : ∀ d, namesEnd l p k ≤ namesEnd l p (k + d) := by
  intro d
  induction d with
  | zero => exact Nat.le_refl _
  | succ d ih =>
    have := nameEnd_le l (namesEnd l p (k + d))
    show _ ≤ nameEnd l (namesEnd l p (k + d))
    omega
theorem namesEnd_mono' (l : List Int) (p : Nat) {k d : Nat} (h : k ≤ d) : namesEnd l p k ≤ namesEnd l p d := by
  have := namesEnd_mono l p k (d - k)
  rwa [Nat.add_sub_cancel' h] at this
theorem aft_eq {l : List Int} {p n : Nat} (h : p + n ≤ l.length) : aft l p n = p + n := Nat.min_eq_left h
theorem nameP_eq {l : List Int} {p : Nat} (h : nameEnd l p ≤ l.length) : nameP l p = nameU l p ∧ namePEnd l p = nameEnd l p := by
  unfold nameEnd at h
  unfold nameP nameU namePEnd nameEnd
  rw [aft_eq (p := p) (n := 1) (by omega), aft_eq (p := p + 1) (n := nameLen l p) (by omega), aft_eq (p := p + 1 + nameLen l p) (n := 2) (by omega)]
  exact ⟨rfl, rfl⟩
theorem namesP_eq {l : List Int} {p : Nat} : ∀ k, namesEnd l p k ≤ l.length → namesPEnd l p k = namesEnd l p k ∧ namesP l p k = namesU l p k := by
  intro k
  induction k with
  | zero => intro _; exact ⟨rfl, rfl⟩
  | succ k ih =>
    intro h
    have hk : namesEnd l p k ≤ l.length := Nat.le_trans (namesEnd_mono l p k 1) h
    obtain ⟨i1, i2⟩ := ih hk
    have hn := nameP_eq (l := l) (p := namesEnd l p k) h
    refine ⟨?_, ?_⟩
    · show namePEnd l (namesPEnd l p k) = nameEnd l (namesEnd l p k)
      rw [i1, hn.2]
    · unfold namesP namesU at i2 ⊢
      rw [List.range_succ, List.map_append, List.map_append, i2]
      simp only [List.map_cons, List.map_nil]
      rw [i1, hn.1]
theorem fin_ge (l : List Int) : 9 ≤ fin l := by
  have := namesEnd_mono l 9 0 (nameCount l)
  rw [Nat.zero_add] at this
  have e : namesEnd l 9 0 = 9 := rfl
  unfold fin codeAt
  omega
theorem imageP_eq {l : List Int} (h : fin l ≤ l.length) : imageP l = imageU l := by
  have h9 := fin_ge l
  have e2 : p2 l = 2 := aft_eq (p := 0) (n := 2) (by omega)
  have e4 : p4 l = 4 := by unfold p4; rw [e2]; exact aft_eq (p := 2) (n := 2) (by omega)
  have e6 : p6 l = 6 := by unfold p6; rw [e4]; exact aft_eq (p := 4) (n := 2) (by omega)
  have e7 : p7 l = 7 := by unfold p7; rw [e6]; exact aft_eq (p := 6) (n := 1) (by omega)
  have e8 : p8 l = 8 := by unfold p8; rw [e7]; exact aft_eq (p := 7) (n := 1) (by omega)
  have e9 : p9 l = 9 := by unfold p9; rw [e8]; exact aft_eq (p := 8) (n := 1) (by omega)
  have ec : countP l = nameCount l := by unfold countP nameCount; rw [e8]
  have el : codeLenP l = codeLen l := by unfold codeLenP codeLen; rw [e2]
  have ed : dataLenP l = dataLen l := by unfold dataLenP dataLen; rw [e7]
  have hc : codeAt l ≤ l.length := by unfold fin at h; omega
  obtain ⟨n1, n2⟩ := namesP_eq (l := l) (p := 9) (nameCount l) hc
  have ep : pCode l = codeAt l := by unfold pCode codeAt; rw [e9, ec, n1]
  unfold imageP imageU
  rw [e4, e6, e9, ec, el, ed, ep, n2, aft_eq (by unfold fin at h; omega)]
theorem cut_app (a b : List Int) (n : Nat) (h : b.length = n) (c : List Int) : cut (a ++ b ++ c) a.length n = b := by
  subst h
  unfold cut
  rw [List.append_assoc, List.drop_left, List.take_left]
theorem numIn2 (x : Int) (h0 : 0 ≤ x) (h1 : x ≤ 65535) : numIn (bytesOf x 2) = x := by
  have e : bytesOf x 2 = [x % 256, x / 256 % 256] := rfl
  rw [e]
  simp only [numIn]
  omega
theorem textOf_ints (s : ByteArray) : textOf (textInts s) = s := by
  unfold textOf textInts letters
  rw [List.map_map, List.map_map]
  have e : ((byteOf ∘ fun (c : Nat) => (c : Int)) ∘ fun (x : UInt8) => x.toNat) = id := by
    funext x
    simp [byteOf]
  rw [e]
  simp
theorem name_back (a c : List Int) (n : Nm) (h0 : 0 ≤ n.at_) (h1 : n.at_ ≤ 65535) (hs : n.text.size ≤ 255) :
    nameU (a ++ nmBytes n ++ c) a.length = n ∧ nameEnd (a ++ nmBytes n ++ c) a.length = a.length + (nmBytes n).length := by
  have e1 : nameLen (a ++ nmBytes n ++ c) a.length = n.text.size := by
    have : a ++ nmBytes n ++ c = a ++ [(n.text.size : Int)] ++ (textInts n.text ++ bytesOf n.at_ 2 ++ c) := by simp [nmBytes]
    unfold nameLen numAt
    rw [this, cut_app a [(n.text.size : Int)] 1 rfl]
    simp [numIn]
  have e2 : cut (a ++ nmBytes n ++ c) (a.length + 1) n.text.size = textInts n.text := by
    have : a ++ nmBytes n ++ c = (a ++ [(n.text.size : Int)]) ++ textInts n.text ++ (bytesOf n.at_ 2 ++ c) := by simp [nmBytes]
    rw [this]
    have h := cut_app (a ++ [(n.text.size : Int)]) (textInts n.text) n.text.size (textInts_len _) (bytesOf n.at_ 2 ++ c)
    rw [List.length_append] at h
    exact h
  have e3 : cut (a ++ nmBytes n ++ c) (a.length + 1 + n.text.size) 2 = bytesOf n.at_ 2 := by
    have : a ++ nmBytes n ++ c = (a ++ [(n.text.size : Int)] ++ textInts n.text) ++ bytesOf n.at_ 2 ++ c := by simp [nmBytes]
    rw [this]
    have h := cut_app (a ++ [(n.text.size : Int)] ++ textInts n.text) (bytesOf n.at_ 2) 2 (bytesOf_len _ _) c
    rw [List.length_append, List.length_append, textInts_len] at h
    exact h
  refine ⟨?_, by unfold nameEnd; rw [e1, nmBytes_len]; omega⟩
  unfold nameU numAt
  rw [e1, e2, e3, numIn2 _ h0 h1, textOf_ints]
theorem names_back (a r : List Int) (l : List Nm) (hl : ∀ n ∈ l, 0 ≤ n.at_ ∧ n.at_ ≤ 65535 ∧ n.text.size ≤ 255) :
    namesEnd (a ++ namesBytes l ++ r) a.length l.length = a.length + (namesBytes l).length ∧ namesU (a ++ namesBytes l ++ r) a.length l.length = l := by
  have key : ∀ k, k ≤ l.length → namesEnd (a ++ namesBytes l ++ r) a.length k = a.length + (namesBytes (l.take k)).length ∧ namesU (a ++ namesBytes l ++ r) a.length k = l.take k := by
    intro k
    induction k with
    | zero => intro _; exact ⟨by simp [namesEnd, namesBytes], by simp [namesU]⟩
    | succ k ih =>
      intro hk
      obtain ⟨i1, i2⟩ := ih (by omega)
      have hlt : k < l.length := by omega
      have hsp : a ++ namesBytes l ++ r = (a ++ namesBytes (l.take k)) ++ nmBytes l[k] ++ (namesBytes (l.drop (k + 1)) ++ r) := by
        have e1 : namesBytes l = namesBytes (l.take k) ++ (nmBytes l[k] ++ namesBytes (l.drop (k + 1))) := by
          have e2 : l.take k ++ (l[k] :: l.drop (k + 1)) = l := by rw [← List.drop_eq_getElem_cons hlt, List.take_append_drop]
          have e3 : namesBytes (l.take k ++ (l[k] :: l.drop (k + 1))) = namesBytes (l.take k) ++ (nmBytes l[k] ++ namesBytes (l.drop (k + 1))) := by simp only [namesBytes, List.flatMap_append, List.flatMap_cons]
          rw [e2] at e3
          exact e3
        rw [e1]
        simp
      obtain ⟨b0, b1, b2⟩ := hl l[k] (List.getElem_mem hlt)
      have hb := name_back (a ++ namesBytes (l.take k)) (namesBytes (l.drop (k + 1)) ++ r) l[k] b0 b1 b2
      rw [← hsp, List.length_append] at hb
      refine ⟨?_, ?_⟩
      · show nameEnd _ (namesEnd _ _ k) = _
        have eg : l.getD k .none = l[k] := by simp [hlt]
        rw [i1, hb.2, namesBytes_succ l k hlt, eg, List.length_append]
        omega
      · unfold namesU at i2 ⊢
        rw [List.range_succ, List.map_append, i2, List.take_succ_eq_append_getElem hlt]
        simp only [List.map_cons, List.map_nil]
        rw [i1, hb.1]
  have h := key l.length (Nat.le_refl _)
  rwa [List.take_length] at h
theorem image_back {m : Img} (h : imageOk m = true) : imageU (imgBytes m) = m ∧ fin (imgBytes m) ≤ (imgBytes m).length := by
  have hb := imageOk_bd h
  have hc0 := hb.c0
  have hc1 := hb.c1
  have he0 := hb.e0
  have he1 := hb.e1
  have hr0 := hb.r0
  have hr1 := hb.r1
  have hd := hb.d1
  have hn1 := hb.n1
  have hnm : ∀ n ∈ m.names, 0 ≤ n.at_ ∧ n.at_ ≤ 65535 ∧ n.text.size ≤ 255 := by
    intro n hn
    have h8 := hb.text8 n hn
    obtain ⟨k, hk, rfl⟩ := List.mem_iff_getElem.1 hn
    have := hb.at0 k hk
    have e : m.names.getD k .none = m.names[k] := by simp [hk]
    rw [e] at this
    omega
  obtain ⟨B, hB⟩ : ∃ B, imgBytes m = B := ⟨_, rfl⟩
  have hfl := front_len m
  have s0 : B = imgFront m ++ namesBytes m.names ++ ((m.code ++ m.data) ++ [chk (imgHead m)]) := by rw [← hB]; simp [imgBytes, imgHead]
  have s1 : B = [108, 99] ++ bytesOf m.code.length 2 ++ (bytesOf m.entry 2 ++ [m.room, (m.data.length : Int), (m.names.length : Int)] ++ namesBytes m.names ++ ((m.code ++ m.data) ++ [chk (imgHead m)])) := by rw [s0]; simp [imgFront]
  have s2 : B = ([108, 99] ++ bytesOf m.code.length 2) ++ bytesOf m.entry 2 ++ ([m.room, (m.data.length : Int), (m.names.length : Int)] ++ namesBytes m.names ++ ((m.code ++ m.data) ++ [chk (imgHead m)])) := by rw [s0]; simp [imgFront]
  have s3 : B = ([108, 99] ++ bytesOf m.code.length 2 ++ bytesOf m.entry 2) ++ [m.room] ++ ([(m.data.length : Int), (m.names.length : Int)] ++ namesBytes m.names ++ ((m.code ++ m.data) ++ [chk (imgHead m)])) := by rw [s0]; simp [imgFront]
  have s4 : B = ([108, 99] ++ bytesOf m.code.length 2 ++ bytesOf m.entry 2 ++ [m.room]) ++ [(m.data.length : Int)] ++ ([(m.names.length : Int)] ++ namesBytes m.names ++ ((m.code ++ m.data) ++ [chk (imgHead m)])) := by rw [s0]; simp [imgFront]
  have s5 : B = ([108, 99] ++ bytesOf m.code.length 2 ++ bytesOf m.entry 2 ++ [m.room, (m.data.length : Int)]) ++ [(m.names.length : Int)] ++ (namesBytes m.names ++ ((m.code ++ m.data) ++ [chk (imgHead m)])) := by rw [s0]; simp [imgFront]
  have c1 : cut B 2 2 = bytesOf m.code.length 2 := by rw [s1]; exact cut_app [108, 99] _ 2 (bytesOf_len _ _) _
  have c2 : cut B 4 2 = bytesOf m.entry 2 := by rw [s2]; exact cut_app ([108, 99] ++ bytesOf m.code.length 2) _ 2 (bytesOf_len _ _) _
  have c3 : cut B 6 1 = [m.room] := by rw [s3]; exact cut_app ([108, 99] ++ bytesOf m.code.length 2 ++ bytesOf m.entry 2) _ 1 rfl _
  have c4 : cut B 7 1 = [(m.data.length : Int)] := by rw [s4]; exact cut_app ([108, 99] ++ bytesOf m.code.length 2 ++ bytesOf m.entry 2 ++ [m.room]) _ 1 rfl _
  have c5 : cut B 8 1 = [(m.names.length : Int)] := by rw [s5]; exact cut_app ([108, 99] ++ bytesOf m.code.length 2 ++ bytesOf m.entry 2 ++ [m.room, (m.data.length : Int)]) _ 1 rfl _
  have n1 : codeLen B = m.code.length := by unfold codeLen numAt; rw [c1, numIn2 _ (by omega) (by omega)]; omega
  have n2 : numAt B 4 2 = m.entry := by unfold numAt; rw [c2, numIn2 _ he0 (by omega)]
  have n3 : numAt B 6 1 = m.room := by unfold numAt; rw [c3]; simp [numIn]
  have n4 : dataLen B = m.data.length := by unfold dataLen numAt; rw [c4]; simp [numIn]
  have n5 : nameCount B = m.names.length := by unfold nameCount numAt; rw [c5]; simp [numIn]
  obtain ⟨x1, x2⟩ := names_back (imgFront m) ((m.code ++ m.data) ++ [chk (imgHead m)]) m.names hnm
  rw [← s0, hfl] at x1 x2
  have hca : codeAt B = 9 + (namesBytes m.names).length := by unfold codeAt; rw [n5]; exact x1
  have d1 : cut B (codeAt B) (codeLen B) = m.code := by
    rw [n1, hca]
    have : B = (imgFront m ++ namesBytes m.names) ++ m.code ++ (m.data ++ [chk (imgHead m)]) := by rw [s0]; simp
    rw [this]
    have h := cut_app (imgFront m ++ namesBytes m.names) m.code m.code.length rfl (m.data ++ [chk (imgHead m)])
    rw [List.length_append, hfl] at h
    exact h
  have d2 : cut B (codeAt B + codeLen B) (dataLen B) = m.data := by
    rw [n1, n4, hca]
    have : B = (imgFront m ++ namesBytes m.names ++ m.code) ++ m.data ++ [chk (imgHead m)] := by rw [s0]; simp
    rw [this]
    have h := cut_app (imgFront m ++ namesBytes m.names ++ m.code) m.data m.data.length rfl [chk (imgHead m)]
    rw [List.length_append, List.length_append, hfl] at h
    exact h
  rw [hB]
  refine ⟨?_, ?_⟩
  · unfold imageU
    rw [d1, d2, n2, n3, n5, x2]
  · unfold fin
    rw [n1, n4, hca, s0]
    simp only [List.length_append, hfl]
    omega
/-- What ImageRead answers, by the program and by the model. -/
def eqInts (a b : List Int) : Bool := decide (a = b)
def readP (l : List Int) : Option Img := if (l.all isByte && (imageOk (imageP l) && eqInts (imgBytes (imageP l)) l)) = true then some (imageP l) else none
def readS (l : List Int) : Option Img := if (l.all isByte && (decide (fin l ≤ l.length) && (imageOk (imageU l) && eqInts (imgBytes (imageU l)) l))) = true then some (imageU l) else none
theorem read_eq (l : List Int) : readP l = readS l := by
  unfold readP readS
  by_cases hf : fin l ≤ l.length
  · rw [imageP_eq hf, decide_eq_true hf, Bool.true_and]
  · have hno : (imageOk (imageP l) && eqInts (imgBytes (imageP l)) l) = false := by
      rw [Bool.and_eq_false_iff]
      by_cases ho : imageOk (imageP l) = true
      · right
        rw [eqInts, decide_eq_false_iff_not]
        intro he
        have := image_back ho
        rw [he] at this
        exact hf this.2
      · left; simpa using ho
    rw [hno, decide_eq_false hf]
    simp
end Go.Proofs.Ytadcepgeodcacaa.Im
/- The laws' own markText: the text of a number; no program's part is spoken of here but the law's. -/
namespace Go.Proofs.Ytadcepgeodcacaa.Im
open Go.RowKit Pl Ft Mm In C2

def digs : Nat → Nat → ByteArray → ByteArray
  | 0, _, acc => acc
  | f + 1, n, acc => if n = 0 then acc else digs f (n / 10) (⟨#[UInt8.ofNat (48 + n % 10)]⟩ ++ acc)
def mk (k : Int) : ByteArray := if k ≤ 0 then ⟨#[109, 48]⟩ else ⟨#[109]⟩ ++ digs k.toNat k.toNat ⟨#[]⟩
theorem digs_zero (f : Nat) (acc : ByteArray) : digs f 0 acc = acc := by cases f <;> simp [digs]
theorem digs_step (f n : Nat) (acc : ByteArray) (h : 0 < n) : digs (f + 1) n acc = digs f (n / 10) (⟨#[UInt8.ofNat (48 + n % 10)]⟩ ++ acc) := by
  rw [digs, if_neg (by omega)]
theorem mk_pos (k : Nat) (h : 0 < k) : mk (k : Int) = ⟨#[109]⟩ ++ digs k k ⟨#[]⟩ := by
  unfold mk
  rw [if_neg (by omega), Int.toNat_natCast]
theorem one_size (b : UInt8) (acc : ByteArray) : ((⟨#[b]⟩ : ByteArray) ++ acc).size = acc.size + 1 := by
  rw [ByteArray.size_append]
  show 1 + _ = _
  omega
theorem conv_one (w : World) (x : Nat) (hx : x < 256) :
    (convert 22 9 (.slice (some ⟨w.heap.size, 0, none⟩) 1 1)).run Try.prog (w.alloc (.cells #[.int .u8 (x : Int)] 5)) = .ok (.string ⟨#[UInt8.ofNat x]⟩) (w.alloc (.cells #[.int .u8 (x : Int)] 5)) := by
  have h := run_convert_bytes_back (P := Try.prog) (w.alloc (.cells #[.int .u8 (x : Int)] 5)) 22 9 5 ⟨w.heap.size, 0, none⟩ 1 [UInt8.ofNat x] Try.underlying22 Try.underlying5 Try.underlying9 (fun j hj => by
    have hj0 : j = 0 := by simpa using hj
    subst hj0
    have e : ((UInt8.ofNat x).toNat : Int) = (x : Int) := by simp; omega
    simp only [List.getElem_cons_zero]
    rw [e]
    exact new_cells w #[.int .u8 (x : Int)] _ _ rfl 0 _ rfl)
  exact h
theorem add_one (w : World) (x : Nat) (acc : ByteArray) (h : acc.size ≤ 4611686018427387904) : (Op.stringOp .add ⟨#[UInt8.ofNat x]⟩ acc).run Try.prog w = .ok (.string (⟨#[UInt8.ofNat x]⟩ ++ acc)) w :=
  run_string_add_sum w _ _ (by
    have : (⟨#[UInt8.ofNat x]⟩ : ByteArray).size = 1 := rfl
    omega)
set_option maxHeartbeats 1000000 in
theorem markText_c (k : Nat) (w : World) (hk0 : 0 < k) (hk : k ≤ 4611686018427387900) :
    Calls Try.prog 78 #[.int .i64 k] w fun e w' => e = .returned (.string (mk k)) ∧ Below w.heap.size w w' := by
  have HMk := hid (mk_pos k hk0)
  go_enter Try.func78, Try.ntmps78
  go_wp2_with fail
  go_loopw [0, 3] (fun x s wr => ∃ (f n : Nat) (acc : ByteArray), x = .int .i64 n ∧ s = .string acc ∧ digs f n acc = digs k k ⟨#[]⟩ ∧ n ≤ f ∧ f ≤ k ∧ acc.size + n ≤ k ∧ Below w.heap.size w wr) (fun x _ _ => (intOf x).toNat)
  case atStart => exact ⟨k, k, ⟨#[]⟩, rfl, rfl, rfl, by omega, by omega, by show 0 + k ≤ k; omega, Below.refl _ _⟩
  case round =>
    obtain ⟨f, n, acc, rfl, rfl, hd, hnf, hfk, hsz, hbel⟩ := hrel
    have HD := hid hd
    have HBe := hid hbel
    have hz := hbel.size
    clear hd hbel
    by_cases hn : 0 < n
    · obtain ⟨f', rfl⟩ : ∃ f', f = f' + 1 := ⟨f - 1, by omega⟩
      have hc := conv_one wr (48 + n % 10) (by omega)
      have ha := add_one (wr.alloc (.cells #[.int .u8 ((48 + n % 10 : Nat) : Int)] 5)) (48 + n % 10) acc (by omega)
      have e : ((48 + n % 10 : Nat) : Int) = 48 + (n : Int) % 10 := by omega
      rw [e] at hc ha
      clear e
      have hstep := (digs_step f' n acc hn).symm.trans HD.out
      obtain ⟨b, hb⟩ : ∃ b, UInt8.ofNat (48 + n % 10) = b := ⟨_, rfl⟩
      rw [hb] at hc ha hstep
      have HStep := hid hstep
      have HSz := hid (one_size b acc)
      clear hb hstep
      go_wp2_with fail
      go_roundw
      case rel => exact ⟨f', n / 10, ⟨#[b]⟩ ++ acc, by go_num, rfl, HStep.out, by omega, by omega, by rw [HSz.out]; omega, HBe.out.alloc (by omega) _⟩
      case measure => simp [intOf]; omega
    · have ha : (Op.stringOp .add ⟨#[109]⟩ acc).run Try.prog wr = .ok (.string (⟨#[109]⟩ ++ acc)) wr := run_string_add_sum wr _ _ (by
        have : (⟨#[109]⟩ : ByteArray).size = 1 := rfl
        omega)
      go_wp2_with fail
      go_ret
      obtain rfl : n = 0 := by omega
      exact ⟨ret_eq (congrArg Value.string (by rw [HMk.out, ← HD.out, digs_zero])), HBe.out⟩
end Go.Proofs.Ytadcepgeodcacaa.Im
/- The laws' own marks: markIntS and heldIntS from any number on, markNameS, heldNameS. -/
namespace Go.Proofs.Ytadcepgeodcacaa.Im
open Go.RowKit Pl Ft Mm In C2

/-- The world w' is w but for new blocks and for the blocks that p tells. -/
structure Only (p : Nat → Prop) (w w' : World) : Prop where
  os : w'.os = w.os
  tape : w'.tape = w.tape
  output : w'.output = w.output
  size : w.heap.size ≤ w'.heap.size
  block : ∀ k, k < w.heap.size → ¬ p k → w'.heap[k]? = w.heap[k]?
theorem Only.refl (p : Nat → Prop) (w : World) : Only p w w := ⟨rfl, rfl, rfl, Nat.le_refl _, fun _ _ _ => rfl⟩
theorem Only.trans {p : Nat → Prop} {a b c : World} (h : Only p a b) (k : Only p b c) : Only p a c :=
  ⟨k.os.trans h.os, k.tape.trans h.tape, k.output.trans h.output, Nat.le_trans h.size k.size, fun i hi hn => (k.block i (Nat.lt_of_lt_of_le hi h.size) hn).trans (h.block i hi hn)⟩
theorem Only.mono {p q : Nat → Prop} {a b : World} (h : Only p a b) (hpq : ∀ k, p k → q k) : Only q a b :=
  ⟨h.os, h.tape, h.output, h.size, fun i hi hn => h.block i hi (fun hp => hn (hpq i hp))⟩
theorem Only.of_below {p : Nat → Prop} {a b : World} (h : Below a.heap.size a b) : Only p a b :=
  ⟨h.os, h.tape, h.output, h.size, fun i hi _ => h.block i hi⟩
theorem Only.below {p : Nat → Prop} {B : Nat} {a b : World} (h : Only p a b) (hB : B ≤ a.heap.size) (hp : ∀ k, p k → B ≤ k) : Below B a b :=
  ⟨h.os, h.tape, h.output, h.size, fun i hi => h.block i (by omega) (fun hpi => by have := hp i hpi; omega)⟩
theorem Only.setCell {p : Nat → Prop} {a b : World} (h : Only p a b) {g : Nat} (hp : p g) (o : Nat) (u : Value) : Only p a (b.setCell ⟨g, o, none⟩ u) :=
  h.trans ⟨rfl, rfl, rfl, by simp [World.setCell], fun k _ hn => Below.heap_setCell _ _ _ _ (fun e => hn (by simp at e; rw [e]; exact hp))⟩
theorem Only.fresh {p : Nat → Prop} {a b : World} (h : Only p a b) {g : Nat} (hg : a.heap.size ≤ g) (o : Nat) (u : Value) : Only p a (b.setCell ⟨g, o, none⟩ u) :=
  ⟨h.os, h.tape, h.output, by have := h.size; simpa [World.setCell] using this, fun k hk hn => (Below.heap_setCell _ _ _ _ (by simp; omega)).trans (h.block k hk hn)⟩
theorem own_only {p : Nat → Prop} {w w' : World} {base : Nat} {e : TypeId} {size : Nat} {v : Value} {n : Nat} {xs : List Value} (h : w.ownsRow base e size v n xs) (hv : ∀ g, v.ownBlock = some g → ¬ p g) (hb : Only p w w') : w'.ownsRow base e size v n xs := by
  refine ⟨h.1, ?_⟩
  rcases h.2 with h0 | ⟨g, cap, cur, rfl, hg, hr, hrest⟩
  · exact .inl h0
  · exact .inr ⟨g, cap, cur, rfl, hg, (hb.block g (Array.getElem?_eq_some_iff.1 hr).1 (hv g rfl)).trans hr, hrest⟩
theorem row_only {p : Nat → Prop} {w w' : World} {g : Nat} {t : TypeId} {cs : Array Value} (h : Row w g t cs) (hg : ¬ p g) (hb : Only p w w') : Row w' g t cs := (hb.block g h.lt hg).trans h
/-- Rows of different element types lie in different blocks. -/
theorem own_apart {w : World} {b1 b2 : Nat} {e1 e2 : TypeId} {s1 s2 : Nat} {v1 v2 : Value} {n1 n2 : Nat} {xs ys : List Value} (h1 : w.ownsRow b1 e1 s1 v1 n1 xs) (h2 : w.ownsRow b2 e2 s2 v2 n2 ys) (hne : e1 ≠ e2) (g : Nat) (hg : v1.ownBlock = some g) : v2.ownBlock ≠ some g := by
  intro hg2
  rcases h1.2 with ⟨rfl, _⟩ | ⟨g1, cap, cur, rfl, _, hr, _⟩
  · cases hg
  rcases h2.2 with ⟨rfl, _⟩ | ⟨g2, cap2, cur2, rfl, _, hr2, _⟩
  · cases hg2
  simp only [Value.ownBlock, Option.some.injEq] at hg hg2
  subst hg
  subst hg2
  rw [hr] at hr2
  simp only [Option.some.injEq, Obj.cells.injEq] at hr2
  exact hne hr2.2.1
set_option maxHeartbeats 1000000 in
theorem markIntS_k (B s : Nat) (xs : List Int) (v : Value) (w : World) (hown : w.ownsRow B 3 1 v xs.length (ints xs)) (hl : xs.length ≤ 1048576) (hs : s ≤ 16777216) :
    Calls Try.prog 18 #[v, .int .i64 s] w fun e w' => e = .returned (.int .i64 ((s + xs.length : Nat) : Int)) ∧ w'.ownsRow B 3 1 v xs.length (ints (upFrom s xs.length)) ∧ Only (fun g => v.ownBlock = some g) w w' := by
  obtain ⟨va, cap, rfl⟩ := own_slice hown
  have HO := hid hown
  clear hown
  go_enter Try.func18, Try.ntmps18
  go_wp2
  go_loopw [1, 5] (fun y c wr => ∃ k : Nat, c = .int .i64 k ∧ y = .int .i64 (s + k) ∧ k ≤ xs.length ∧ wr.ownsRow B 3 1 (.slice va xs.length cap) xs.length (ints (upFrom s k ++ xs.drop k)) ∧ Only (fun g => (Value.slice va xs.length cap).ownBlock = some g) w wr) (fun _ c _ => xs.length - (intOf c).toNat)
  case atStart => exact ⟨0, rfl, by simp, by omega, by simpa [upFrom] using HO.out, Only.refl _ _⟩
  case round =>
    obtain ⟨k, rfl, rfl, hk, hown, hbel⟩ := hrel
    by_cases hlt : k < xs.length
    · obtain ⟨g, cap', hv, hg1, hg2⟩ := own_addr hown (by omega)
      have ha : va = some ⟨g, 0, none⟩ := by simp at hv; exact hv.1
      subst ha
      have hcell := hown.cellAt k (by omega)
      have hsome : ∃ u, (ints (upFrom s k ++ xs.drop k))[k]? = some u := by
        have hlen : k < (ints (upFrom s k ++ xs.drop k)).length := by simp [ints, upFrom]; omega
        exact ⟨_, List.getElem?_eq_getElem hlen⟩
      obtain ⟨u, hu⟩ := hsome
      rw [hu] at hcell
      have hfz := hown.frozenAt k
      have hst := hown.stored k (.int .i64 (s + k))
      rw [mark_step s xs k hlt] at hst
      have HS := hid hst
      have HB2 := hid (hbel.setCell (g := g) rfl k (.int .i64 (s + k)))
      clear hst hown hbel hu hv
      go_wp2_with fail
      go_roundw
      case rel => exact ⟨k + 1, by go_num, by go_num, by omega, HS.out.1, HB2.out⟩
      case measure => simp [intOf]; omega
    · obtain rfl : k = xs.length := by omega
      have HO2 := hid hown
      have HB2 := hid hbel
      clear hown hbel
      go_wp2_with fail
      go_ret
      exact ⟨int_eq (by omega), by simpa using HO2.out, HB2.out⟩
set_option maxHeartbeats 1000000 in
theorem heldIntS_k (s n : Nat) (v : Value) (w : World) (ha : Rd w v (upFrom s n)) (hl : n ≤ 1048576) (hs : s ≤ 16777216) :
    Calls Try.prog 19 #[v, .int .i64 s] w fun e w' => e = .returned (.int .i64 ((s + n : Nat) : Int)) ∧ w = w' := by
  obtain ⟨a, ca, rfl, ha⟩ := ha
  rw [upFrom_len]
  have HA := hid ha
  clear ha
  go_enter Try.func19, Try.ntmps19
  go_wp2
  go_loop [1, 5] (fun y c => ∃ k : Nat, c = .int .i64 k ∧ y = .int .i64 (s + k) ∧ k ≤ n) (fun _ c => n - (intOf c).toNat)
  case atStart => exact ⟨0, rfl, by simp, by omega⟩
  case round =>
    obtain ⟨k, rfl, rfl, hk⟩ := hrel
    by_cases hlt : k < n
    · rcases HA.out with h | ⟨g, o, rfl, hg, hc⟩
      · have := upFrom_len s n; rw [h] at this; simp at this; omega
      have q1 := hc k (by rw [upFrom_len]; exact hlt)
      rw [upFrom_get s n k hlt] at q1
      clear hc
      go_wp2_with fail
      go_round
      case rel => exact ⟨k + 1, by go_num, by go_num, by omega⟩
      case measure => simp [intOf]; omega
    · obtain rfl : k = n := by omega
      go_wp2_with fail
      go_ret
      exact ⟨int_eq (by omega), rfl⟩
def nmMarks (s n : Nat) : List Nm := (List.range n).map fun j => ⟨mk ((s + 2 * j : Nat) : Int), ((s + 2 * j + 1 : Nat) : Int)⟩
theorem nmMarks_len (s n : Nat) : (nmMarks s n).length = n := by simp [nmMarks]
theorem nmMarks_get (s n j : Nat) (h : j < n) : (nmMarks s n).getD j .none = ⟨mk ((s + 2 * j : Nat) : Int), ((s + 2 * j + 1 : Nat) : Int)⟩ := by simp [nmMarks, h]
theorem nmMark_step (s : Nat) (l : List Nm) (k : Nat) (h : k < l.length) :
    ((nmCells (nmMarks s k ++ l.drop k)).set (k * 2) (.string (mk ((s + 2 * k : Nat) : Int)))).set (k * 2 + 1) (.int .i64 ((s + 2 * k + 1 : Nat) : Int)) = nmCells (nmMarks s (k + 1) ++ l.drop (k + 1)) := by
  have e : l.drop k = l[k] :: l.drop (k + 1) := List.drop_eq_getElem_cons h
  have e2 : nmMarks s (k + 1) = nmMarks s k ++ [⟨mk ((s + 2 * k : Nat) : Int), ((s + 2 * k + 1 : Nat) : Int)⟩] := by simp [nmMarks, List.range_succ]
  have hl : (nmCells (nmMarks s k)).length = k * 2 := by rw [nmCells_len, nmMarks_len]
  have e3 : ∀ (x : Nm) (r : List Nm), nmCells (nmMarks s k ++ x :: r) = nmCells (nmMarks s k) ++ (.string x.text :: .int .i64 x.at_ :: nmCells r) := by
    intro x r
    simp only [nmCells, List.flatMap_append, List.flatMap_cons, Nm.cells, List.cons_append, List.nil_append]
  rw [e, e2, List.append_assoc, List.singleton_append, e3, e3, List.set_append_right _ _ (by omega), hl, Nat.sub_self, List.set_cons_zero, List.set_append_right _ _ (by omega), hl, Nat.add_sub_cancel_left, List.set_cons_succ, List.set_cons_zero]
set_option maxHeartbeats 1000000 in
theorem markNameS_c (B s : Nat) (l : List Nm) (v : Value) (w : World) (hown : w.ownsRow B 77 2 v l.length (nmCells l)) (hl : l.length ≤ 1048576) (hs0 : 0 < s) (hs : s ≤ 16777216) :
    Calls Try.prog 48 #[v, .int .i64 s] w fun e w' => e = .returned (.int .i64 ((s + 2 * l.length : Nat) : Int)) ∧ w'.ownsRow B 77 2 v l.length (nmCells (nmMarks s l.length)) ∧ Only (fun g => v.ownBlock = some g) w w' := by
  obtain ⟨va, cap, rfl⟩ := own_slice hown
  have HO := hid hown
  clear hown
  go_enter Try.func48, Try.ntmps48
  go_wp2
  go_loopw [1, 5] (fun y c wr => ∃ k q : Nat, c = .int .i64 k ∧ y = .int .i64 q ∧ q = s + 2 * k ∧ k ≤ l.length ∧ wr.ownsRow B 77 2 (.slice va l.length cap) l.length (nmCells (nmMarks s k ++ l.drop k)) ∧ Only (fun g => (Value.slice va l.length cap).ownBlock = some g) w wr) (fun _ c _ => l.length - (intOf c).toNat)
  case atStart => exact ⟨0, s, rfl, rfl, by omega, by omega, by simpa [nmMarks] using HO.out, Only.refl _ _⟩
  case round =>
    obtain ⟨k, q, rfl, rfl, hq, hk, hown, hbel⟩ := hrel
    by_cases hlt : k < l.length
    · obtain ⟨g, cap', hv, hg1, hg2⟩ := own_addr hown (by omega)
      have ha : va = some ⟨g, 0, none⟩ := by simp at hv; exact hv.1
      subst ha
      have HOw := hid hown
      have HBe := hid hbel
      have hq1 : q ≤ 18874368 := by omega
      have hq0 : 0 < q := by omega
      have HQ := hid hq
      clear hown hbel hv hq
      go_wp2_with fail
      refine (markText_c q _ hq0 (by omega)).mono ?_
      rintro e w2 ⟨rfl, hb2⟩
      have HO2 := hid (own_on HOw.out hb2)
      have HB2 := hid (HBe.out.trans (.of_below hb2))
      have hz2 := hb2.size
      clear hb2
      obtain ⟨t, ht⟩ : ∃ t, mk (q : Int) = t := ⟨_, rfl⟩
      have HT := hid ht
      rw [ht]
      clear ht
      have hlen : k * 2 + 1 < (nmCells (nmMarks s k ++ l.drop k)).length := by rw [nmCells_len, List.length_append, nmMarks_len, List.length_drop]; omega
      have hc0 := HO2.out.cellAt (k * 2) (by omega)
      have hc1 := HO2.out.cellAt (k * 2 + 1) (by omega)
      rw [List.getElem?_eq_getElem (by omega)] at hc0
      rw [List.getElem?_eq_getElem hlen] at hc1
      have hf0 := HO2.out.frozenAt (k * 2)
      have hf1 := HO2.out.frozenAt (k * 2 + 1)
      have hst := ((HO2.out.stored (k * 2) (.string t)).1.stored (k * 2 + 1) (.int .i64 ((q : Int) + 1))).1
      have hstep := nmMark_step s l k hlt
      rw [← HQ.out, HT.out, show ((q + 1 : Nat) : Int) = (q : Int) + 1 by omega] at hstep
      rw [hstep] at hst
      have HS := hid hst
      have HB3 := hid ((HB2.out.setCell (g := g) rfl (k * 2) (.string t)).setCell (g := g) rfl (k * 2 + 1) (.int .i64 ((q : Int) + 1)))
      obtain ⟨u0, hu0⟩ : ∃ u, (nmCells (nmMarks s k ++ l.drop k))[k * 2]'(by omega) = u := ⟨_, rfl⟩
      obtain ⟨u1, hu1⟩ : ∃ u, (nmCells (nmMarks s k ++ l.drop k))[k * 2 + 1]'hlen = u := ⟨_, rfl⟩
      rw [hu0] at hc0
      rw [hu1] at hc1
      clear hst hstep hlen hu0 hu1
      go_wp2_with fail
      go_roundw
      case rel => exact ⟨k + 1, q + 1 + 1, by go_num, by go_num, by have := HQ.out; omega, by omega, HS.out, HB3.out⟩
      case measure => simp [intOf]; omega
    · obtain rfl : k = l.length := by omega
      have HO2 := hid hown
      have HB2 := hid hbel
      have HQ := hid hq
      clear hown hbel hq
      go_wp2_with fail
      go_ret
      exact ⟨int_eq (by have := HQ.out; omega), by simpa using HO2.out, HB2.out⟩
set_option maxHeartbeats 1000000 in
theorem heldNameS_c (s n : Nat) (v : Value) (w : World) (ha : NRd w v (nmMarks s n)) (hl : n ≤ 1048576) (hs0 : 0 < s) (hs : s ≤ 16777216) :
    Calls Try.prog 56 #[v, .int .i64 s] w fun e w' => e = .returned (.int .i64 ((s + 2 * n : Nat) : Int)) ∧ Below w.heap.size w w' := by
  obtain ⟨a, ca, rfl, ha⟩ := ha
  rw [nmMarks_len]
  have HA := hid ha
  clear ha
  go_enter Try.func56, Try.ntmps56
  go_wp2_with fail
  go_loopw [1, 5] (fun y c wr => ∃ k q : Nat, c = .int .i64 k ∧ y = .int .i64 q ∧ q = s + 2 * k ∧ k ≤ n ∧ Below w.heap.size w wr) (fun _ c _ => n - (intOf c).toNat)
  case atStart => exact ⟨0, s, rfl, rfl, by omega, by omega, Below.refl _ _⟩
  case round =>
    obtain ⟨k, q, rfl, rfl, hq, hk, hbel⟩ := hrel
    have HBe := hid hbel
    have hz := hbel.size
    have HQ := hid hq
    have hq1 : q ≤ 18874368 := by omega
    have hq0 : 0 < q := by omega
    clear hbel
    by_cases hlt : k < n
    · rcases HA.out with h | ⟨g, o, rfl, hg, hc⟩
      · have := nmMarks_len s n; rw [h] at this; simp at this; omega
      obtain ⟨c0, c1⟩ := hc k (by rw [nmMarks_len]; exact hlt)
      rw [nmMarks_get s n k hlt, ← hq] at c0 c1
      have q0 : wr.cell? ⟨g, o + k * 2, none⟩ = some (.string (mk q)) := (HBe.out.cell (p := ⟨g, o + k * 2, none⟩) hg).trans c0
      have q1 : wr.cell? ⟨g, o + k * 2 + 1, none⟩ = some (.int .i64 ((q + 1 : Nat) : Int)) := (HBe.out.cell (p := ⟨g, o + k * 2 + 1, none⟩) hg).trans c1
      rw [show ((q + 1 : Nat) : Int) = (q : Int) + 1 by omega] at q1
      have hk1 : (k : Int) < n := by omega
      have hk0 : 0 ≤ (k : Int) := by omega
      have hgz : g < wr.heap.size := by omega
      have HM := hid (fun w => markText_c q w hq0 (by omega))
      obtain ⟨t, ht⟩ : ∃ t, mk (q : Int) = t := ⟨_, rfl⟩
      rw [ht] at HM q0
      clear hc c0 c1 ht hq
      go_upto_region 4 with fail
      go_cut [19] (fun s19 wx => s19 = .bool false ∧ Below wr.heap.size wr wx)
      case first =>
        go_region_with (go_at_call 78; refine (HM.out _).mono ?_; rintro e w1 ⟨rfl, hb1⟩; have z0 : w1.cell? ⟨g, o + k * 2, none⟩ = some (.string t) := (hb1.cell (p := ⟨g, o + k * 2, none⟩) hgz).trans q0; have HB1 := hid hb1; clear hb1)
        all_goals
          go_wp2_with fail
          go_meet
          exact ⟨rfl, (Below.refl _ _).drew.trans HB1.out⟩
      case rest =>
        obtain ⟨rfl, hcut⟩ := hcut
        have HB1 := hid (HBe.out.trans (hcut.mono hz))
        have q1' := (hcut.cell (p := ⟨g, o + k * 2 + 1, none⟩) hgz).trans q1
        clear hcut q0 q1
        go_wp2_with fail
        go_roundw
        case rel => exact ⟨k + 1, q + 1 + 1, by go_num, by go_num, by have := HQ.out; omega, by omega, HB1.out⟩
        case measure => simp [intOf]; omega
    · obtain rfl : k = n := by omega
      clear hq
      go_wp2_with fail
      go_ret
      exact ⟨int_eq (by have := HQ.out; omega), HBe.out⟩
end Go.Proofs.Ytadcepgeodcacaa.Im
/- The program's reader of bytes: take, number. -/
namespace Go.Proofs.Ytadcepgeodcacaa.Im
open Go.RowKit Pl Ft Mm In C2

theorem el_int : Try.prog.underlying 23 = some (.slice (Try.prog.elem 23)) := by kernel_rfl
theorem sz_int (w : World) : (sizeOf (Try.prog.elem 23)).run Try.prog w = .ok 1 w := by kernel_rfl
theorem rd_far' {p : Nat → Prop} {w w' : World} {v : Value} {xs : List Int} (h : Rd w v xs) (hv : ∀ a n c, v = .slice (some a) n c → ¬ p a.block) (hb : Only p w w') : Rd w' v xs := by
  obtain ⟨a, cap, e, h⟩ := h
  refine ⟨a, cap, e, ?_⟩
  rcases h with h | ⟨g, o, ea, hg, hc⟩
  · exact .inl h
  · refine .inr ⟨g, o, ea, Nat.lt_of_lt_of_le hg hb.size, fun j hj => ?_⟩
    have hne : ¬ p g := by subst e ea; exact hv _ _ _ rfl
    rw [World.cell?_of_block (w := w) (hb.block g hg hne)]
    exact hc j hj
/-- A part of a slice of numbers. -/
theorem slice_any (a : Option Addr) (l : List Int) (cap p q : Nat) (hn : l.length ≤ cap) (hp : p ≤ q) (hq : q ≤ l.length) (hi : Int) (hhi : hi = (q : Int)) :
    ∃ a', (∀ w, (Instr.sliceAt 23 (.slice a l.length cap) (some (.int .i64 (p : Int))) (some (.int .i64 hi)) none).run Try.prog w = .ok (.slice a' (q - p) (cap - p)) w) ∧
      ∀ w, Rd w (.slice a l.length cap) l → SrcAt w a' (q - p) 1 (ints ((l.drop p).take (q - p))) := by
  subst hhi
  refine ⟨if cap - p = 0 then a else a.map (·.add (p * 1)), fun w => ?_, fun w h => ?_⟩
  · rw [run_sliceAt_slice w _ _ _ _ _ el_int, run_slice_lh w _ _ _ _ el_int _ _ _ _ (by omega) (by omega) (by omega), sz_int]
    simp only [Result.andThen, sliced, Int.toNat_natCast]
    by_cases hc : cap = p
    · rw [if_pos hc, if_pos (by omega)]
    · rw [if_neg hc, if_neg (by omega)]
  · have hl : ((l.drop p).take (q - p)).length = q - p := by rw [List.length_take, List.length_drop]; omega
    refine ⟨by rw [ints_len, hl, Nat.mul_one], ?_⟩
    by_cases h0 : q - p = 0
    · exact .inl h0
    · obtain ⟨a', c', e, h⟩ := h
      simp only [Value.slice.injEq] at e
      obtain ⟨rfl, _, _⟩ := e
      rcases h with h | ⟨g, o, rfl, hg, hc⟩
      · rw [h] at hq; simp at hq; omega
      · refine .inr ⟨⟨g, o + p, none⟩, ?_, fun j u hu => ?_⟩
        · rw [if_neg (by omega), Option.map_some, Nat.mul_one]
          unfold Addr.add
          split <;> simp_all
        · have e : (⟨g, o + p, none⟩ : Addr).add j = ⟨g, o + (p + j), none⟩ := by rw [← Nat.add_assoc]; unfold Addr.add; split <;> simp_all
          have hj : j < q - p := by have := (List.getElem?_eq_some_iff.1 hu).1; rw [ints_len, hl] at this; exact this
          rw [e, hc (p + j) (by omega)]
          simp only [ints, List.getElem?_map, List.getElem?_take_of_lt hj, List.getElem?_drop] at hu
          rw [List.getElem?_eq_getElem (by omega : p + j < l.length)] at hu
          simp only [Option.map_some, Option.some.injEq] at hu
          rw [← hu]
          simp [(by omega : p + j < l.length)]
/-- Block rb holds a reader that stands at place p of the numbers. -/
structure RS (w : World) (rb : Nat) (v : Value) (l : List Int) (p : Nat) : Prop where
  box : Row w rb 87 #[v, .int .i64 p]
  rd : Rd w v l
  cap : CapOk v
  far : ∀ a n c, v = .slice (some a) n c → a.block ≠ rb
  le : p ≤ l.length
  long : l.length ≤ 1048576
theorem RS.step {w w' : World} {rb : Nat} {v : Value} {l : List Int} {p p' : Nat} (h : RS w rb v l p) (hb : Only (· = rb) w w') (hr : Row w' rb 87 #[v, .int .i64 p']) (hp : p' ≤ l.length) : RS w' rb v l p' :=
  ⟨hr, rd_far' h.rd h.far hb, h.cap, h.far, hp, h.long⟩
theorem RS.on {w w' : World} {rb : Nat} {v : Value} {l : List Int} {p : Nat} (h : RS w rb v l p) (hb : Below w.heap.size w w') : RS w' rb v l p :=
  ⟨h.box.on hb, h.rd.on hb, h.cap, h.far, h.le, h.long⟩
theorem rd_fresh {w0 w : World} {v : Value} {xs : List Int} {g : Nat} (h0 : Rd w0 v xs) (h : Rd w v xs) (hg : w0.heap.size ≤ g) (o : Nat) (u : Value) : Rd (w.setCell ⟨g, o, none⟩ u) v xs := by
  obtain ⟨a0, cap0, e0, h0⟩ := h0
  obtain ⟨a, cap, e, h⟩ := h
  rw [e0] at e
  simp only [Value.slice.injEq, true_and] at e
  obtain ⟨rfl, rfl⟩ := e
  refine ⟨a0, cap0, e0, ?_⟩
  rcases h with h | ⟨g1, o1, ea, hg1, hc⟩
  · exact .inl h
  · rcases h0 with h0 | ⟨g2, o2, ea2, hg2, _⟩
    · exact .inl h0
    · rw [ea] at ea2
      simp only [Option.some.injEq, Addr.mk.injEq] at ea2
      refine .inr ⟨g1, o1, ea, by simpa using hg1, fun j hj => ?_⟩
      rw [World.cell?_setCell_other w ⟨g, o, none⟩ ⟨g1, o1 + j, none⟩ u (fun e => by have := congrArg Addr.block e; simp at this; omega)]
      exact hc j hj
theorem RS.fresh {w0 w : World} {rb : Nat} {v : Value} {l : List Int} {p0 p : Nat} {g : Nat} (h0 : RS w0 rb v l p0) (h : RS w rb v l p) (hg : w0.heap.size ≤ g) (o : Nat) (u : Value) : RS (w.setCell ⟨g, o, none⟩ u) rb v l p :=
  ⟨h.box.far (p := ⟨g, o, none⟩) (by have := h0.box.lt; simp; omega) u, rd_fresh h0.rd h.rd hg o u, h.cap, h.far, h.le, h.long⟩
theorem aft_le (l : List Int) (p n : Nat) : aft l p n ≤ l.length := Nat.min_le_right _ _
theorem aft_ge (l : List Int) (p n : Nat) (h : p ≤ l.length) : p ≤ aft l p n := by unfold aft; omega
theorem cut_aft (l : List Int) (p n : Nat) (h : p ≤ l.length) : (l.drop p).take (aft l p n - p) = cut l p n := by
  unfold cut aft
  by_cases hn : p + n ≤ l.length
  · rw [Nat.min_eq_left hn, Nat.add_sub_cancel_left]
  · rw [Nat.min_eq_right (by omega), List.take_of_length_le (by rw [List.length_drop]; exact Nat.le_refl _), List.take_of_length_le (by rw [List.length_drop]; omega)]
theorem cut_len (l : List Int) (p n : Nat) (h : p ≤ l.length) : (cut l p n).length = aft l p n - p := by
  rw [← cut_aft l p n h, List.length_take, List.length_drop]
  have := aft_le l p n
  omega
def TakePost (rb : Nat) (v : Value) (l : List Int) (p n : Nat) (w : World) (e : Ending) (w' : World) : Prop :=
  ∃ v', e = .returned v' ∧ w'.ownsRow w.heap.size 3 1 v' (cut l p n).length (ints (cut l p n)) ∧ RS w' rb v l (aft l p n) ∧ Only (· = rb) w w'
set_option maxHeartbeats 1000000 in
set_option maxRecDepth 100000 in
theorem take_c (rb : Nat) (v : Value) (l : List Int) (p n : Nat) (w : World) (h : RS w rb v l p) (hn : n ≤ 1048576) :
    Calls Try.prog 79 #[.pointer (some ⟨rb, 0, none⟩), .int .i64 n] w (TakePost rb v l p n w) := by
  obtain ⟨a, cap, rfl⟩ := rd_slice h.rd
  have hc := h.cap.of
  have hp := h.le
  have hll := h.long
  have hq := aft_le l p n
  have hq2 := aft_ge l p n hp
  have x0 := h.box.cell 0
  have x1 := h.box.cell 1
  have hfr := h.box.free
  have hlt := h.box.lt
  have H := hid h
  simp at x0 x1
  have HCut := hid (cut_aft l p n hp)
  have HLen := hid (cut_len l p n hp)
  clear h
  obtain ⟨q, hqe⟩ : ∃ q, aft l p n = q := ⟨_, rfl⟩
  have hqm : min ((p : Int) + n) l.length = (q : Int) := by rw [← hqe]; unfold aft; omega
  rw [hqe] at hq hq2 HCut HLen
  obtain ⟨a', hsl, hsrc⟩ := slice_any a l cap p q hc hq2 hq q rfl
  have HSrc := hid hsrc
  have HQ := hid hqe
  clear hqe hsrc
  have HO := hid (show Only (· = rb) w (w.setCell ⟨rb, 1, none⟩ (.int .i64 q)) from (Only.refl (· = rb) w).setCell (g := rb) rfl 1 _)
  have HR := hid (H.out.step HO.out (p' := q) (H.out.box.set 1 (.int .i64 q)) hq)
  go_enter Try.func79, Try.ntmps79
  go_upto_region 3 with fail
  generalize w.setCell ⟨rb, 1, none⟩ (.int .i64 q) = w1 at HO HR ⊢
  clear x0 x1 hfr
  have x0 := HR.out.box.cell 0
  have x1 := HR.out.box.cell 1
  simp at x0 x1
  go_still_tail 10, (by kernel_rfl)
  change wpList _ _ _ _ _ w1.drew
  have HOd := hid (HO.out.trans (.of_below (Below.refl _ _).drew))
  have HRd := hid (HR.out.on (Below.refl _ _).drew)
  clear HO HR x0 x1
  generalize w1.drew = w3 at HOd HRd ⊢
  have hz1 := HOd.out.size
  go_wp2_with (at_builtin; refine app_ints _ rfl _ _ rfl w.heap.size [] (cut l p n) (.slice none 0 0) rfl (World.ownsRow_nil _ _ _ _) _ _ _ rfl HLen.out.symm (by rw [← HCut.out]; exact HSrc.out _ HRd.out.rd) (by have := HLen.out; simp; omega) hz1 ?_)
  intro v' w2 hg
  have HG := hid hg
  clear hg
  go_wp2_with fail
  go_ret
  have hb2 : Below w3.heap.size w3 w2 := ⟨HG.out.bel.os, HG.out.bel.tape, HG.out.bel.output, HG.out.bel.size, fun k hk => HG.out.far k hk (by simp [Value.ownBlock])⟩
  refine ⟨_, rfl, HG.out.own, ?_, HOd.out.trans (.of_below hb2)⟩
  rw [HQ.out]
  exact HRd.out.on hb2
end Go.Proofs.Ytadcepgeodcacaa.Im
/- FnInsAt: the walk. -/
namespace Go.Proofs.Ytadcepgeodcacaa.C2
open Go.RowKit Pl Ft Mm Src In Im

theorem src_rd {w : World} {a : Option Addr} {c : Nat} {ys : List Int} (h : SrcAt w a ys.length 1 (ints ys)) : ∃ v, Rd w (.slice a ys.length c) ys ∧ v = Value.slice a ys.length c := by
  refine ⟨_, ⟨a, c, rfl, ?_⟩, rfl⟩
  rcases h.2 with h0 | ⟨ad, rfl, hc⟩
  · exact .inl (List.eq_nil_of_length_eq_zero h0)
  · by_cases hn : ys = []
    · exact .inl hn
    · have hp : 0 < ys.length := List.length_pos_iff.2 hn
      have c0 := hc 0 _ (show (ints ys)[0]? = some (.int .i64 ys[0]) by simp [ints, hp])
      have e0 : ad.add 0 = ad := rfl
      rw [e0] at c0
      have hs := cell_spot c0
      refine .inr ⟨ad.block, ad.off, by rw [← hs], cell_lt c0, fun j hj => ?_⟩
      rw [← add_none, ← hs]
      exact hc j _ (by simp [ints, hj])
set_option maxRecDepth 100000 in
set_option maxHeartbeats 2000000 in
theorem insAtLaw_w (a : Option Addr) (len cap : Nat) (zs : List Int) (w : World) (hB : Bytes w a len zs) :
    Calls Try.prog 3 #[.slice a len cap] w fun e w' => e = .returned (.bool true) ∧ Below w.heap.size w w' := by
  have hs := hB.small
  have H := hid hB
  clear hB
  go_enter Try.func3, Try.ntmps3
  go_wp2_with fail
  refine (drawInsAt_c a len cap zs w H.out).mono ?_
  rintro e w1 ⟨v, xs, at_, rfl, hown, hxl, hat0, hat1, b1⟩
  obtain ⟨sx, cx, rfl⟩ := own_slice hown
  have HCap := hid (own_cap2 hown)
  have hcx := (own_cap2 hown) _ _ _ rfl
  have HX1 := hid hown
  have B1 := hid b1
  clear hown b1
  have HEq := hid (insAt_eq xs at_)
  obtain ⟨o, ho⟩ : ∃ o, insAt xs at_ = o := ⟨_, rfl⟩
  have HO := hid ho
  obtain ⟨⟨jop, ja, jb, jn⟩, hj⟩ : ∃ i, o.getD insZero = i := ⟨_, rfl⟩
  have HJ := hid hj
  have HV := hid (show insVal o = .tuple #[.agg #[.int .i64 jop, .int .i64 ja, .int .i64 jb, .int .i64 jn], .bool o.isSome] by unfold insVal; rw [hj]; rfl)
  clear ho hj
  go_wp2_with fail
  refine (insAt_c xs (.slice sx xs.length cx) at_ _ (.of_own HX1.out) HCap.out (by omega)).mono ?_
  rintro e w2 ⟨rfl, hb2⟩
  have HX2 := hid (own_on HX1.out hb2)
  have B2 := hid (B1.out.trans (hb2.mono B1.out.size))
  clear hb2
  rw [HO.out, HV.out]
  go_wp2_with fail
  have hal := (Below.refl w2.heap.size w2).alloc (Nat.le_refl _) (.cells #[.int .i64 jop, .int .i64 ja, .int .i64 jb, .int .i64 jn] 27)
  have HR3 := hid (Row.new w2 27 #[.int .i64 jop, .int .i64 ja, .int .i64 jb, .int .i64 jn])
  have HX3 := hid (own_on HX2.out hal)
  have B3 := hid (B2.out.trans (hal.mono B2.out.size))
  obtain ⟨rg, hrg⟩ : ∃ g, w2.heap.size = g := ⟨_, rfl⟩
  rw [hrg] at HR3 ⊢
  clear hal hrg
  generalize w2.alloc (.cells #[.int .i64 jop, .int .i64 ja, .int .i64 jb, .int .i64 jn] 27) = w3 at HR3 HX3 B3 ⊢
  refine (sInsAt_c xs (.slice sx xs.length cx) at_ _ (.of_own HX3.out) (by omega)).mono ?_
  rintro e w4 ⟨rfl, hb4⟩
  have HX4 := hid (own_on HX3.out hb4)
  have HR4 := hid (HR3.out.on hb4)
  have B4 := hid (B3.out.trans (hb4.mono B3.out.size))
  clear hb4
  rw [← HEq.out, HO.out, HV.out]
  have hrl := HR4.out.lt
  have x0 := HR4.out.cell 0
  have x1 := HR4.out.cell 1
  have x2 := HR4.out.cell 2
  have x3 := HR4.out.cell 3
  simp at x0 x1 x2 x3
  have heq := eql_ins ⟨jop, ja, jb, jn⟩
  have hgn := fun bo x y => guard_ins bo x y #[.int .i64 jop, .int .i64 ja, .int .i64 jb, .int .i64 jn] #[.int .i64 jop, .int .i64 ja, .int .i64 jb, .int .i64 jn]
  simp only at heq
  have HX5 := hid (HX4.out.alloc (.cells #[.int .i64 jop, .int .i64 ja, .int .i64 jb, .int .i64 jn] 27))
  have B5 := hid (B4.out.alloc B4.out.size (.cells #[.int .i64 jop, .int .i64 ja, .int .i64 jb, .int .i64 jn] 27))
  cases o with
  | none =>
    simp only [Option.isSome_none]
    go_wp2_with fail
    go_ret
    exact ⟨rfl, B5.out⟩
  | some i =>
    obtain rfl : i = ⟨jop, ja, jb, jn⟩ := HJ.out
    simp only [Option.isSome_some]
    have hfact : 0 ≤ at_ ∧ at_ < xs.length ∧ isCode xs = true ∧ insIn xs at_.toNat = some ⟨jop, ja, jb, jn⟩ := by
      have h := HO.out
      unfold insAt at h
      split at h
      · rename_i hc
        simp only [Bool.and_eq_true, decide_eq_true_eq] at hc
        exact ⟨hc.2.1, hc.2.2, hc.1, h⟩
      · cases h
    obtain ⟨ha0, ha1, hcode, hin⟩ := hfact
    obtain ⟨p, rfl⟩ := Int.eq_ofNat_of_zero_le ha0
    rw [Int.toNat_natCast] at hin
    have hbytes : xs.all isByte = true := by simp only [isCode, Bool.and_eq_true] at hcode; exact hcode.2
    obtain ⟨l, hl1, hl2, hl3⟩ := read_put hbytes (by omega) (by omega) hin
    have hl5 := insPut_pos hl1
    obtain ⟨hl0, hl5⟩ := hl5
    have HL1 := hid hl1
    have HL2 := hid hl2
    clear hl1 hl2 hin hcode hbytes
    go_wp2_with fail
    refine (insPut_c ⟨jop, ja, jb, jn⟩ (p : Int) _).mono ?_
    rw [HL1.out]
    rintro e w6 ⟨vb, rfl, hb6, hnil, hown⟩
    have HBk := hid (hown l rfl)
    have HX6 := hid (own_on HX5.out hb6)
    have B6 := hid (B5.out.trans (hb6.mono B5.out.size))
    obtain ⟨sb, cb, rfl⟩ := own_slice HBk.out
    obtain ⟨a', hsl, hsrc⟩ := slice_any sx xs cx p (p + l.length) hcx (by omega) hl3 ((p : Int) + l.length) (by omega)
    rw [Nat.add_sub_cancel_left] at hsl hsrc
    have HSr := hid (hsrc w6 (.of_own HX6.out))
    rw [← HL2.out] at HSr
    clear hb6 hnil hown hsrc x0 x1 x2 x3 heq hgn
    go_wp2_with fail
    refine (SameInts_b l _ _ _ (.of_own HBk.out) (by obtain ⟨_, h, _⟩ := src_rd (c := cx - p) HSr.out; exact h) (by omega)).mono ?_
    rintro e w7 ⟨rfl, hb7⟩
    have B7 := hid (B6.out.trans (hb7.mono B6.out.size))
    clear hb7
    go_wp2_with fail
    go_ret
    exact ⟨rfl, B7.out⟩
end Go.Proofs.Ytadcepgeodcacaa.C2
