/- The variables of a term, plainly; texts that are appended; the closure that gathers them. -/
import Derived.Test.YtffibmlgdacafaaDoorUi
import Derived.Test.YtffibmlgdacafaaDoorBase
import Derived.Test.YtffibmlgdacafaaDoorApp
set_option linter.unusedSimpArgs false
set_option linter.unusedVariables false
namespace Go.Proofs.YtffibmlgdacafaaDoor.Um
open Go.RowKit Go.MapKept Pl Ft Mm In C2 Im

def strs (l : List ByteArray) : List Value := l.map Value.string
theorem hasText_mem {l : List ByteArray} {s : ByteArray} : hasText l s = true ↔ s ∈ l := by
  unfold hasText
  rw [List.any_eq_true]
  constructor
  · rintro ⟨x, hx, h⟩
    have : x = s := by
      have h2 : x.toList = s.toList := by simpa using h
      rw [ByteArray.toList_eq, ByteArray.toList_eq] at h2
      exact ByteArray.ext (Array.ext' h2)
    exact this ▸ hx
  · exact fun h => ⟨s, h, by simp⟩
def addT (l : List ByteArray) (s : ByteArray) : List ByteArray := if hasText l s then l else l ++ [s]
/-- Texts, and those of others that are not there yet. -/
def joinT (a b : List ByteArray) : List ByteArray := b.foldl addT a
theorem mem_add {l : List ByteArray} {s x : ByteArray} : x ∈ addT l s ↔ x ∈ l ∨ x = s := by
  unfold addT
  split
  · rename_i h
    have := hasText_mem.1 h
    constructor
    · exact .inl
    · rintro (h | rfl)
      · exact h
      · exact this
  · simp
theorem mem_join (b : List ByteArray) : ∀ (a : List ByteArray) (x : ByteArray), x ∈ joinT a b ↔ x ∈ a ∨ x ∈ b := by
  induction b with
  | nil => intro a x; simp [joinT]
  | cons y b ih =>
    intro a x
    have := ih (addT a y) x
    unfold joinT at this ⊢
    rw [List.foldl_cons, this, mem_add, List.mem_cons, or_assoc]
theorem join_add (L b : List ByteArray) (s : ByteArray) : joinT L (addT b s) = addT (joinT L b) s := by
  unfold addT
  by_cases h : hasText b s = true
  · have h2 : hasText (joinT L b) s = true := hasText_mem.2 ((mem_join b L s).2 (.inr (hasText_mem.1 h)))
    rw [if_pos h, if_pos h2]
  · rw [if_neg h]
    unfold joinT
    rw [List.foldl_append]
    rfl
theorem join_assoc (b : List ByteArray) : ∀ (L a : List ByteArray), joinT L (joinT a b) = joinT (joinT L a) b := by
  induction b with
  | nil => intro L a; rfl
  | cons y b ih =>
    intro L a
    have h1 : joinT a (y :: b) = joinT (addT a y) b := rfl
    have h2 : joinT (joinT L a) (y :: b) = joinT (addT (joinT L a) y) b := rfl
    rw [h1, h2, ih, join_add]
/-- The variables of a term at most so high, as they are met. -/
def varsT : Nat → Tm → List ByteArray
  | 0, _ => []
  | h + 1, t => if t.kind = 1 then [t.text] else t.kids.foldl (fun out k => joinT out (varsT h k)) []
/-- What the program's walk does to what was met. -/
def visitL (L : List ByteArray) (t : Tm) : List ByteArray := if t.kind = 1 then addT L t.text else L
def walkL : Nat → List ByteArray → Tm → List ByteArray
  | 0, L, _ => L
  | h + 1, L, t => t.kids.foldl (walkL h) (visitL L t)
theorem join_nil (L : List ByteArray) : joinT L [] = L := rfl
theorem fold_join {f : Tm → List ByteArray} (ks : List Tm) : ∀ (L a : List ByteArray), ks.foldl (fun out k => joinT out (f k)) (joinT L a) = joinT L (ks.foldl (fun out k => joinT out (f k)) a) := by
  induction ks with
  | nil => intro L a; rfl
  | cons k ks ih =>
    intro L a
    rw [List.foldl_cons, List.foldl_cons, ← ih, join_assoc]
theorem walk_is : ∀ (h : Nat) (L : List ByteArray) (t : Tm), shape h t = true → walkL h L t = joinT L (varsT h t)
  | 0, _, _, hs => by simp [shape] at hs
  | h + 1, L, t, hs => by
    obtain ⟨hf, hk⟩ := shape_at hs
    unfold walkL varsT visitL
    by_cases h1 : t.kind = 1
    · have hk0 : t.kids = [] := by
        unfold Tm.form formOf at hf
        rw [if_neg (by omega), if_pos h1] at hf
        simp only [Bool.and_eq_true, beq_iff_eq] at hf
        exact List.eq_nil_of_length_eq_zero hf.2.2
      rw [if_pos h1, if_pos h1, hk0]
      rfl
    · rw [if_neg h1, if_neg h1]
      have e : t.kids.foldl (walkL h) L = t.kids.foldl (fun out k => joinT out (varsT h k)) L := by
        have : ∀ (ks : List Tm) (L : List ByteArray), (∀ j, j < ks.length → shape h (ks.getD j tz) = true) → ks.foldl (walkL h) L = ks.foldl (fun out k => joinT out (varsT h k)) L := by
          intro ks
          induction ks with
          | nil => intro L _; rfl
          | cons k ks ih =>
            intro L hks
            rw [List.foldl_cons, List.foldl_cons, walk_is h L k (by simpa using hks 0 (by simp))]
            exact ih _ (fun j hj => by simpa using hks (j + 1) (by simpa using hj))
        exact this t.kids L hk
      rw [e]
      exact fold_join t.kids L []
/-- The map of what was met. -/
def mapB (L : List ByteArray) : List (ByteArray × Bool) := L.foldl (fun es s => Ms.putE es s true) []
theorem mapB_snoc (L : List ByteArray) (s : ByteArray) : mapB (L ++ [s]) = Ms.putE (mapB L) s true := by simp [mapB]
theorem look_mapB (s : ByteArray) : ∀ (n : Nat) (L : List ByteArray), L.length = n → (Ms.lookE (mapB L) s).getD false = hasText L s
  | 0, L, h => by
    obtain rfl : L = [] := by simpa using h
    rfl
  | n + 1, L, h => by
    have hne : L ≠ [] := by intro e; rw [e] at h; simp at h
    obtain ⟨L', v, rfl⟩ : ∃ l' v, L = l' ++ [v] := ⟨L.dropLast, L.getLast hne, (List.dropLast_concat_getLast hne).symm⟩
    have ih := look_mapB s n L' (by simpa using h)
    rw [mapB_snoc, Ms.look_put, Bool.eq_iff_iff, hasText_mem]
    by_cases hs : s = v
    · rw [if_pos hs]; simp [hs]
    · rw [if_neg hs, ih, hasText_mem]; simp [hs]
/-- Texts that are appended. -/
structure GrowsS (B : Nat) (xs : List ByteArray) (v v' : Value) (w w' : World) : Prop where
  own : w'.ownsRow B 9 1 v' xs.length (strs xs)
  bel : Below B w w'
  far : ∀ g, g < w.heap.size → v.ownBlock ≠ some g → w'.heap[g]? = w.heap[g]?
  at_ : v'.ownBlock = v.ownBlock ∨ ∃ g, v'.ownBlock = some g ∧ w.heap.size ≤ g
theorem growsS_of {B : Nat} {xs ys : List ByteArray} {v v' : Value} {w w' : World} (hown : w.ownsRow B 9 1 v xs.length (strs xs)) (hB : B ≤ w.heap.size) (h : w'.ownsRow B 9 1 v' (xs.length + ys.length) (strs xs ++ strs ys)) (hg : w.grownBy w' v.ownBlock) (ha : v'.ownBlock = v.ownBlock ∨ v'.ownBlock = some w.heap.size) : GrowsS B (xs ++ ys) v v' w w' := by
  refine ⟨?_, (Below.refl B w).grown hg hB (fun g hg => (hown.lt g hg).1), fun g hlt hne => hg.block g hlt (fun e => hne e.symm), ?_⟩
  · rw [List.length_append, strs, List.map_append]
    exact h
  · rcases ha with e | e
    · exact .inl e
    · exact .inr ⟨_, e, Nat.le_refl _⟩
theorem info_string : (Tryd.prog.info? 9).map (fun i => (i.zero, i.size, i.bytes)) = some (some (.string ⟨#[]⟩), 1, 16) := by kernel_rfl
section
variable {ops : Array Oper} {rest : List Oper} {o : Oper} {a : Act} {Q : Exit → Act → World → Prop} (w : World)
theorem app_strs (hgd : o.guard = none) (s x : Operand)
    (ho : o.op = .call { callee := .builtin .append, args := #[s, x], argTypes := #[53, 53] })
    (B : Nat) (xs ys : List ByteArray) (v : Value) (hs : a.eval s = v) (hown : w.ownsRow B 9 1 v xs.length (strs xs))
    (A : Option Addr) (m c : Nat) (hx : a.eval x = .slice A m c) (hm : m = ys.length) (hsrc : SrcAt w A m 1 (strs ys))
    (hl : xs.length + ys.length ≤ 1000000000) (hB : B ≤ w.heap.size)
    (h : ∀ v' w', GrowsS B (xs ++ ys) v v' w w' → wpList Tryd.prog ops Q rest (a.put o.dst v') w') : wpList Tryd.prog ops Q (o :: rest) a w := by
  obtain ⟨i0, hi, hz0, hz1, hz2⟩ := info_parts info_string
  subst hm
  exact wpList_app w hgd s x 53 ho B 9 i0 (.string ⟨#[]⟩) 1 16 Tryd.underlying53 hi hz0 hz1 hz2 rfl (by decide) v xs.length (strs xs) hs hown A ys.length c (strs ys) hx hsrc
    (fun u hu => by obtain ⟨y, _, rfl⟩ := List.mem_map.1 hu; rfl) (by simp only [maxLen]; omega) (by omega) hB
    (fun v' w' h1 h2 h3 => h v' w' (growsS_of hown hB h1 h2 h3))
end
theorem src_strs (w : World) (ys : List ByteArray) (cs : Array Value) (H n : Nat) (h : cs.toList = strs ys) (hH : w.heap.size = H) (hn : n = ys.length) : SrcAt (w.alloc (.cells cs 9)) (some ⟨H, 0, none⟩) n 1 (strs ys) := by
  subst hH
  subst hn
  exact ⟨by simp [strs], .inr ⟨_, rfl, new_cells w cs _ _ h⟩⟩
/-- How the gathering stands. -/
structure St (lo bm bl m0 : Nat) (L : List ByteArray) (v : Value) (w : World) : Prop where
  rm : Row w bm 129 #[.map (some m0)]
  em : Ms.EAt w m0 Ms.encB (mapB L)
  rl : Row w bl 53 #[v]
  own : w.ownsRow lo 9 1 v L.length (strs L)
  l1 : bm < lo
  l2 : bl < lo
  l3 : m0 < lo
  n1 : bm ≠ bl
  n2 : bm ≠ m0
  n3 : bl ≠ m0
  sz : lo ≤ w.heap.size
theorem St.on {lo bm bl m0 : Nat} {L : List ByteArray} {v : Value} {w w' : World} (h : St lo bm bl m0 L v w) (hb : Below w.heap.size w w') : St lo bm bl m0 L v w' :=
  ⟨h.rm.on hb, h.em.on hb, h.rl.on hb, own_on h.own hb, h.l1, h.l2, h.l3, h.n1, h.n2, h.n3, Nat.le_trans h.sz hb.size⟩
/-- The blocks on which it stands and that it may write. -/
def foot (bl m0 : Nat) (v : Value) (b : Nat) : Prop := b = m0 ∨ b = bl ∨ v.ownBlock = some b
def StPost (lo bm bl m0 : Nat) (v : Value) (L : List ByteArray) (w : World) (e : Ending) (w' : World) : Prop :=
  ∃ v', e = .returned (.tuple #[]) ∧ St lo bm bl m0 L v' w' ∧ (∀ k, v'.ownBlock = some k → v.ownBlock = some k ∨ w.heap.size ≤ k) ∧ Only (foot bl m0 v) w w'
theorem St.foot_lt {lo bm bl m0 : Nat} {L : List ByteArray} {v : Value} {w : World} (h : St lo bm bl m0 L v w) {b : Nat} (hb : foot bl m0 v b) : b < w.heap.size := by
  rcases hb with rfl | rfl | hb
  · exact h.em.lt
  · exact h.rl.lt
  · exact (h.own.lt b hb).2
set_option maxRecDepth 100000 in
set_option maxHeartbeats 4000000 in
theorem visit_c (lo bm bl m0 : Nat) (L : List ByteArray) (v : Value) (t : Tm) (kv : Value) (w : World) (hs : St lo bm bl m0 L v w) (ht : t.text.size ≤ 1048576) (hL : L.length ≤ 1000000) :
    Calls Tryd.prog 110 #[tmVal t kv, .pointer (some ⟨bm, 0, none⟩), .pointer (some ⟨bl, 0, none⟩)] w (StPost lo bm bl m0 v (visitL L t) w) := by
  obtain ⟨x0, x1, x2, lk, hp⟩ := Pt.of t
  rw [hp.val]
  rw [hp.s] at ht
  have HVi := hid (show visitL L t = if x0 = 1 then addT L x2 else L by rw [visitL, hp.k, hp.s])
  clear hp
  have HS := hid hs
  have HB0 := hid ((Below.refl w.heap.size w).alloc (Nat.le_refl _) (.cells #[.int .i64 x0, .int .i64 x1, .string x2, kv] 28))
  by_cases h1 : x0 = 1
  case neg =>
    have HVn := hid (show visitL L t = L by rw [HVi.out, if_neg h1])
    have h1b : (x0 == 1) = false := by simpa using h1
    go_enter Tryd.func110, Tryd.ntmps110
    go_wp2_with fail
    go_end0
    exact ⟨v, rfl, by rw [HVn.out]; exact HS.out.on HB0.out, fun k h => .inl h, Only.of_below HB0.out⟩
  subst h1
  have hs1 := hs.on HB0.out
  have HS1 := hid hs1
  have hget := Ms.run_get_b hs1.em x2 (by unfold maxLen; omega)
  rw [look_mapB x2 _ L rfl] at hget
  unfold Ms.encB at hget
  have m0c := hs1.rm.cell 0
  have l0c := hs1.rl.cell 0
  simp at m0c l0c
  have hbm := hs.rm.lt
  have hbl := hs.rl.lt
  cases hh : hasText L x2
  case true =>
    have HVn := hid (show visitL L t = L by rw [HVi.out, if_pos rfl, addT, hh]; rfl)
    rw [hh] at hget
    clear hs hs1
    go_enter Tryd.func110, Tryd.ntmps110
    go_wp2_with fail
    go_end0
    exact ⟨v, rfl, by rw [HVn.out]; exact HS1.out, fun k h => .inl h, Only.of_below HB0.out⟩
  have HVn := hid (show visitL L t = L ++ [x2] by rw [HVi.out, if_pos rfl, addT, hh]; rfl)
  rw [hh] at hget
  have hput := Ms.run_put_b hs1.em x2 (by unfold maxLen; omega) true
  unfold Ms.encB at hput
  have hm0 := hs1.em.lt
  have HOn := hid (Ms.setE_only (w.alloc (.cells #[.int .i64 1, .int .i64 x1, .string x2, kv] 28)) m0 Ms.encB (Ms.putE (mapB L) x2 true))
  have HAt := hid (Ms.setE_at (w := w.alloc (.cells #[.int .i64 1, .int .i64 x1, .string x2, kv] 28)) (b := m0) hm0 Ms.encB (Ms.putE (mapB L) x2 true))
  have hX : Row (w.alloc (.cells #[.int .i64 1, .int .i64 x1, .string x2, kv] 28)) w.heap.size 28 #[.int .i64 1, .int .i64 x1, .string x2, kv] := Row.new w _ _
  have hnX : ¬ w.heap.size = m0 := by have := hs.em.lt; omega
  have HX2 := hid (row_only hX hnX HOn.out)
  have HRm2 := hid (row_only hs1.rm hs.n2 HOn.out)
  have HRl2 := hid (row_only hs1.rl hs.n3 HOn.out)
  have HOw2 := hid (own_only hs1.own (fun g hg => by have := (hs1.own.lt g hg).1; have := hs.l3; omega) HOn.out)
  have hw2 : Ms.setE (w.alloc (.cells #[.int .i64 1, .int .i64 x1, .string x2, kv] 28)) m0 Ms.encB (Ms.putE (mapB L) x2 true) = Ms.setE (w.alloc (.cells #[.int .i64 1, .int .i64 x1, .string x2, kv] 28)) m0 Ms.encB (Ms.putE (mapB L) x2 true) := rfl
  obtain ⟨w2, hw2⟩ : ∃ w2, Ms.setE (w.alloc (.cells #[.int .i64 1, .int .i64 x1, .string x2, kv] 28)) m0 Ms.encB (Ms.putE (mapB L) x2 true) = w2 := ⟨_, rfl⟩
  unfold Ms.encB at hw2
  rw [hw2] at hput
  have hw2' : Ms.setE (w.alloc (.cells #[.int .i64 1, .int .i64 x1, .string x2, kv] 28)) m0 Ms.encB (Ms.putE (mapB L) x2 true) = w2 := by unfold Ms.encB; exact hw2
  rw [hw2'] at HOn HAt HX2 HRm2 HRl2 HOw2
  clear hw2 hw2' hs hs1 hX hnX
  have e2 := HX2.out.cell 2
  have l2c := HRl2.out.cell 0
  simp at e2 l2c
  have hz2 := HOn.out.size
  simp only [World.size_alloc] at hz2
  have hl2 := HRl2.out.lt
  obtain ⟨sv, cv, rfl⟩ := own_slice HOw2.out
  go_enter Tryd.func110, Tryd.ntmps110
  go_wp2_with (at_builtin; refine app_strs _ rfl _ _ rfl lo L [x2] _ rfl (own_on HOw2.out ((Below.refl _ _).alloc (Nat.le_refl _) _)) _ _ _ rfl rfl (src_strs _ [x2] #[.string x2] _ 1 rfl rfl rfl) (by simp only [List.length_cons, List.length_nil]; omega) (by have := HS.out.sz; simp; omega) ?_)
  intro v5 w5 hg5
  have HG5 := hid hg5
  obtain ⟨s5, c5, rfl⟩ := own_slice hg5.own
  have HRl5 := hid (show Row w5 bl 53 #[.slice sv L.length cv] from (hg5.far bl (by simp; omega) (fun h => by have := (HOw2.out.lt bl h).1; have := HS.out.l2; omega)).trans (HRl2.out.alloc _))
  have l5 := HRl5.out.cell 0
  simp at l5
  have hf5 := HRl5.out.free
  have hl5 := HRl5.out.lt
  clear hg5
  go_wp2_with fail
  go_end0
  have hn5 : ∀ g, g < w2.heap.size → (Value.slice sv L.length cv).ownBlock ≠ some g → w5.heap[g]? = w2.heap[g]? := fun g hg hne => (HG5.out.far g (by simp; omega) hne).trans (Below.heap_alloc w2 _ g hg)
  have hsv : ∀ g, (Value.slice sv L.length cv).ownBlock = some g → lo ≤ g ∧ g < w2.heap.size := fun g hg => HOw2.out.lt g hg
  have hS := HS.out
  have hl1 := hS.l1
  have hl2 := hS.l2
  have hl3 := hS.l3
  have hz5 : w2.heap.size ≤ w5.heap.size := by have := HG5.out.bel.size; simp at this; omega
  have ho5 := HG5.out.own
  have hL5 : (L ++ [x2]).length = L.length + 1 := by simp
  have ha5 := HG5.out.at_
  rw [hL5] at ho5 ha5
  refine ⟨.slice s5 (L.length + 1) c5, rfl, ?_, fun k hk => ?_, ?_⟩
  · rw [HVn.out]
    refine ⟨?_, ?_, ?_, ?_, hl1, hl2, hl3, hS.n1, hS.n2, hS.n3, by have := hS.sz; simp [World.size_setCell]; omega⟩
    · exact Row.far (show Row w5 bm _ _ from (hn5 bm HRm2.out.lt (fun h => by have := (hsv bm h).1; omega)).trans HRm2.out) (by simpa using hS.n1) _
    · rw [mapB_snoc]
      have h5 : w5.heap[m0]? = w2.heap[m0]? := hn5 m0 HAt.out.lt (fun h => by have := (hsv m0 h).1; omega)
      exact ((Below.heap_setCell _ _ _ _ (by simpa using Ne.symm hS.n3)).trans h5).trans HAt.out
    · exact HRl5.out.set 0 _
    · rw [hL5]
      exact own_far ho5 (fun g hg => by have := (ho5.lt g hg).1; simp; omega) _
  · rcases ha5 with e | ⟨g, e, hg⟩
    · exact .inl (e ▸ hk)
    · right
      have : g = k := by rw [e] at hk; exact Option.some.inj hk
      subst this
      simp at hg
      omega
  · have o1 : Only (foot bl m0 (.slice sv L.length cv)) w w2 := (Only.of_below HB0.out).trans (HOn.out.mono (fun k hk => .inl hk))
    have o2 : Only (foot bl m0 (.slice sv L.length cv)) w2 w5 := ⟨HG5.out.bel.os, HG5.out.bel.tape, HG5.out.bel.output, hz5, fun k hk hn => hn5 k hk (fun h => hn (.inr (.inr h)))⟩
    exact (o1.trans o2).setCell (g := bl) (.inr (.inl rfl)) 0 _
end Go.Proofs.YtffibmlgdacafaaDoor.Um
