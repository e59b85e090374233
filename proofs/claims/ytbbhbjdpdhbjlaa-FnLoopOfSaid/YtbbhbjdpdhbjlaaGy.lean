/- The edges that lead back, the heads, and whether a graph is reducible: the program. -/
import Derived.Test.YtbbhbjdpdhbjlaaGo
set_option linter.unusedSimpArgs false
set_option linter.unusedVariables false
namespace Go.Proofs.Ytbbhbjdpdhbjlaa.Ge
open Go.RowKit Pl Ft Mm In Gp

/-- The edges that do not lead on in an order, of its node at a place; of all of the first k; of all. -/
def backsAt (L : Nat → List Nat) (od : List Nat) (k : Nat) : List (Nat × Nat) := ((L (od.getD k 0)).filter fun t => decide (t ∈ od.take (k + 1))).map fun t => (od.getD k 0, t)
def backsTo (L : Nat → List Nat) (od : List Nat) (k : Nat) : List (Nat × Nat) := (List.range k).flatMap (backsAt L od)
theorem backsTo_succ (L : Nat → List Nat) (od : List Nat) (k : Nat) : backsTo L od (k + 1) = backsTo L od k ++ backsAt L od k := by
  unfold backsTo
  rw [List.range_succ, List.flatMap_append]
  simp
noncomputable def backsP (L : Nat → List Nat) : List (Nat × Nat) := backsTo L (orderP L) (orderP L).length
theorem mem_backsTo {L : Nat → List Nat} {od : List Nat} {k : Nat} {e : Nat × Nat} : e ∈ backsTo L od k ↔ ∃ i, i < k ∧ e.1 = od.getD i 0 ∧ e.2 ∈ L (od.getD i 0) ∧ e.2 ∈ od.take (i + 1) := by
  unfold backsTo
  rw [List.mem_flatMap]
  constructor
  · rintro ⟨i, hi, he⟩
    unfold backsAt at he
    obtain ⟨t, ht, rfl⟩ := List.mem_map.1 he
    obtain ⟨h1, h2⟩ := List.mem_filter.1 ht
    exact ⟨i, List.mem_range.1 hi, rfl, h1, of_decide_eq_true h2⟩
  · rintro ⟨i, hi, h1, h2, h3⟩
    refine ⟨i, List.mem_range.2 hi, ?_⟩
    unfold backsAt
    exact List.mem_map.2 ⟨e.2, List.mem_filter.2 ⟨h2, decide_eq_true h3⟩, by rw [← h1]⟩
def eCells (l : List (Nat × Nat)) : List Value := l.flatMap fun e => [.int .i64 e.1, .int .i64 e.2]
theorem eCells_app (a b : List (Nat × Nat)) : eCells (a ++ b) = eCells a ++ eCells b := by simp [eCells]
theorem eCells_get (l : List (Nat × Nat)) (k : Nat) (h : k < l.length) : (eCells l)[k * 2]? = some (.int .i64 (l.getD k (0, 0)).1) ∧ (eCells l)[k * 2 + 1]? = some (.int .i64 (l.getD k (0, 0)).2) := by
  have hh := fun j hj => flat_get (fun e : Nat × Nat => [Value.int .i64 e.1, .int .i64 e.2]) 2 (fun _ => rfl) (0, 0) l k j h hj
  exact ⟨hh 0 (by decide), hh 1 (by decide)⟩
theorem eCells_one (l : List (Nat × Nat)) : ∀ u ∈ eCells l, u.oneCell' = true := by
  intro u hu
  obtain ⟨e, _, he⟩ := List.mem_flatMap.1 hu
  simp only [List.mem_cons, List.not_mem_nil, or_false] at he
  rcases he with rfl | rfl <;> rfl
theorem info_edge : (Try.prog.info? 76).map (fun i => (i.zero, i.size, i.bytes)) = some (some (.agg #[.int .i64 0, .int .i64 0]), 2, 16) := by kernel_rfl
theorem SrcAt.ed (w : World) (e : Nat × Nat) (H : Nat) (hH : w.heap.size = H) : SrcAt (w.alloc (.cells #[.int .i64 e.1, .int .i64 e.2] 76)) (some ⟨H, 0, none⟩) 1 2 [.int .i64 e.1, .int .i64 e.2] := by
  subst hH
  exact ⟨rfl, .inr ⟨_, rfl, new_cells w #[.int .i64 e.1, .int .i64 e.2] _ _ rfl⟩⟩
theorem app_edges {ops : Array Oper} {rest : List Oper} {o : Oper} {a : Act} {Q : Exit → Act → World → Prop} (w : World) (hgd : o.guard = none) (s x : Operand)
    (ho : o.op = .call { callee := .builtin .append, args := #[s, x], argTypes := #[73, 73] })
    (B : Nat) (xs : List (Nat × Nat)) (n : Nat × Nat) (v : Value) (hs : a.eval s = v) (hown : w.ownsRow B 76 2 v xs.length (eCells xs))
    (A : Option Addr) (m c : Nat) (hx : a.eval x = .slice A m c) (hm : m = 1) (hsrc : SrcAt w A 1 2 [.int .i64 n.1, .int .i64 n.2])
    (hl : xs.length ≤ 1000000000) (hB : B ≤ w.heap.size)
    (h : ∀ v' w', w'.ownsRow B 76 2 v' (xs ++ [n]).length (eCells (xs ++ [n])) → Only (fun g => v.ownBlock = some g) w w' → wpList Try.prog ops Q rest (a.put o.dst v') w') : wpList Try.prog ops Q (o :: rest) a w := by
  obtain ⟨i0, hi, hz0, hz1, hz2⟩ := info_parts info_edge
  subst hm
  refine wpList_app w hgd s x 73 ho B 76 i0 (.agg #[.int .i64 0, .int .i64 0]) 2 16 Try.underlying73 hi hz0 hz1 hz2 rfl (by decide) v xs.length (eCells xs) hs hown A 1 c [.int .i64 n.1, .int .i64 n.2] hx hsrc ?_ (by simp only [maxLen]; omega) (by omega) hB
    (fun v' w' h1 h2 h3 => h v' w' ?_ ⟨h2.os, h2.tape, h2.output, h2.size, fun k hk hne => h2.block k hk (fun e => hne e.symm)⟩)
  · intro u hu
    simp only [List.mem_cons, List.not_mem_nil, or_false] at hu
    rcases hu with rfl | rfl <;> rfl
  · rw [List.length_append]
    have e : eCells (xs ++ [n]) = eCells xs ++ [.int .i64 n.1, .int .i64 n.2] := by simp [eCells]
    rw [e]
    exact h1
def EdPost (l : List (Nat × Nat)) (w : World) (e : Ending) (w' : World) : Prop := ∃ v, e = .returned v ∧ w'.ownsRow w.heap.size 76 2 v l.length (eCells l) ∧ Below w.heap.size w w'
theorem backsAt_len {g : List (List Int)} (hok : okG g = true) (k : Nat) (hk : k < (orderP (adj g)).length) : (backsAt (adj g) (orderP (adj g)) k).length ≤ 9 := by
  unfold backsAt
  rw [List.length_map]
  refine Nat.le_trans (List.length_filter_le _ _) (adj_len hok (order_lt (adj_bd hok) _ ?_))
  simp [hk]
theorem backsTo_len {g : List (List Int)} (hok : okG g = true) (k : Nat) (hk : k ≤ (orderP (adj g)).length) : (backsTo (adj g) (orderP (adj g)) k).length ≤ 9 * k := by
  induction k with
  | zero => simp [backsTo]
  | succ k ih =>
    rw [backsTo_succ, List.length_append]
    have := ih (by omega)
    have := backsAt_len hok k (by omega)
    omega
/-- The first elements of what reads. -/
theorem Rd.take {w : World} {a : Option Addr} {c : Nat} {xs : List Int} (h : Rd w (.slice a xs.length c) xs) (k : Nat) (hk : k ≤ xs.length) : Rd w (.slice a k c) (xs.take k) := by
  obtain ⟨a', c', e, h⟩ := h
  simp only [Value.slice.injEq, true_and] at e
  obtain ⟨rfl, rfl⟩ := e
  refine ⟨a, c, by rw [List.length_take, Nat.min_eq_left hk], ?_⟩
  rcases h with h | ⟨g, o, rfl, hg, hc⟩
  · subst h; exact .inl (by simp)
  · refine .inr ⟨g, o, rfl, hg, fun j hj => ?_⟩
    rw [List.length_take] at hj
    rw [hc j (by omega), List.getD_eq_getElem?_getD, List.getD_eq_getElem?_getD, List.getElem?_take_of_lt (by omega)]
set_option maxRecDepth 100000 in
set_option maxHeartbeats 4000000 in
theorem backs_c (g : List (List Int)) (vg vo : Value) (w : World) (h : Sd w vg vo g) :
    Calls Try.prog 80 #[.agg #[vg, vo]] w (EdPost (backsP (adj g)) w) := by
  obtain ⟨B, hg⟩ := h.gr
  obtain ⟨sg, cg, rfl⟩ := hg.slice
  obtain ⟨lo, hod⟩ := h.od
  have hok := h.ok
  have hlen := h.len
  have HG := hid hg
  have HOk := hid hok
  obtain ⟨od, hodq⟩ : ∃ od, natI (orderP (adj g)) = od := ⟨_, rfl⟩
  have HOq := hid hodq
  have hodl : od.length ≤ 30 := by rw [← hodq, natI_len]; omega
  have HEl := hid (show (orderP (adj g)).length = od.length by rw [← hodq, natI_len])
  rw [hodq] at hod
  have HRo := hid (Rd.of_own hod)
  have HCap := hid (show ∀ a n c, vo = .slice a n c → n ≤ c from fun a n c hv => by
    rcases hod.2 with ⟨h1, h2⟩ | ⟨g', cap', cur, h1, _, _, hnc, _⟩
    · rw [h1] at hv; simp only [Value.slice.injEq] at hv; omega
    · rw [h1] at hv; simp only [Value.slice.injEq] at hv; omega)
  obtain ⟨so, co, rfl⟩ := own_slice hod
  have HB1 := hid ((Below.refl w.heap.size w).alloc (Nat.le_refl _) (.cells #[.slice sg g.length cg, .slice so od.length co] 48))
  have HS1 := hid (Row.new w 48 #[.slice sg g.length cg, .slice so od.length co])
  have hco : od.length ≤ co := HCap.out _ _ _ rfl
  clear h hg hod hok hodq hlen
  go_enter Try.func80, Try.ntmps80
  go_upto_region 1 with fail
  obtain ⟨w1, hw1⟩ : ∃ w1, w.alloc (.cells #[.slice sg g.length cg, .slice so od.length co] 48) = w1 := ⟨_, rfl⟩
  have hz1 : w1.heap.size = w.heap.size + 1 := by rw [← hw1]; simp
  rw [hw1] at HB1 HS1 ⊢
  obtain ⟨H, hH⟩ : ∃ H, w.heap.size = H := ⟨_, rfl⟩
  have HH := hid hH
  have HZ1 := hid hz1
  rw [hH] at HS1
  try rw [hH]
  have s0 := HS1.out.cell 0
  have s1 := HS1.out.cell 1
  simp at s0 s1
  clear hw1 hH hz1
  go_wp2_with fail
  go_loopw [3, 11] (fun v y wr => ∃ (k : Nat) (es : List (Nat × Nat)), y = .int .i64 k ∧ k ≤ od.length ∧ es = backsTo (adj g) (orderP (adj g)) k ∧ wr.ownsRow w1.heap.size 76 2 v es.length (eCells es) ∧ Below w1.heap.size w1 wr) (fun _ y _ => od.length - (intOf y).toNat)
  case atStart => exact ⟨0, [], rfl, by omega, by simp [backsTo], World.ownsRow_nil _ _ _ _, Below.refl _ _⟩
  case round =>
    obtain ⟨k, es, rfl, hk, hes, hown, hbel⟩ := hrel
    have HO := hid hown
    have HBe := hid hbel
    have HE := hid hes
    have hel : es.length ≤ 9 * k := by rw [hes]; exact backsTo_len HOk.out k (by rw [HEl.out]; exact hk)
    have HS := hid (HS1.out.on hbel)
    have HRr := hid (HRo.out.on (HB1.out.trans (hbel.mono HB1.out.size)))
    have HGr := hid (HG.out.on (HB1.out.trans (hbel.mono HB1.out.size)))
    obtain ⟨sv, cv, rfl⟩ := own_slice hown
    have s0 := HS.out.cell 0
    have s1 := HS.out.cell 1
    simp at s0 s1
    clear hown hbel hes
    by_cases hlt : k < od.length
    case neg =>
      obtain rfl : k = od.length := by omega
      go_wp2_with fail
      go_ret
      have hbs : es = backsP (adj g) := by rw [HE.out, ← HEl.out]; rfl
      exact ⟨_, rfl, by rw [← hbs]; exact own_mono HO.out HB1.out.size, HB1.out.trans (HBe.out.mono HB1.out.size)⟩
    have hko : k < (orderP (adj g)).length := by rw [HEl.out]; exact hlt
    have hpe : od.getD k 0 = ((orderP (adj g)).getD k 0 : Nat) := by rw [← HOq.out, natI_get _ _ hko]
    have hpm : (orderP (adj g)).getD k 0 ∈ orderP (adj g) := by simp [hko]
    obtain ⟨p, hpp⟩ : ∃ p, (orderP (adj g)).getD k 0 = p := ⟨_, rfl⟩
    have HP := hid hpp
    rw [hpp] at hpe hpm
    have hpN := order_lt (adj_bd HOk.out) p hpm
    have hgl := okG_len HOk.out
    obtain ⟨a9, c9, e9, h9⟩ := HRr.out
    rcases h9 with h9 | ⟨b2, o2, rfl, hb2, hc2⟩
    · rw [h9] at hlt; simp at hlt
    simp only [Value.slice.injEq, true_and, and_true] at e9
    obtain ⟨rfl, rfl⟩ := e9
    have q1 := hc2 k hlt
    rw [hpe] at q1
    have HTk := hid (Rd.take HRr.out (k + 1) (by omega))
    clear hc2 hpe hpp hpm
    go_wp2_with fail
    refine (next_c g p B _ _ HGr.out hpN (by omega)).mono ?_
    rintro e w2 ⟨u, rfl, hru, hku, rfl⟩
    obtain ⟨su, cu, rfl⟩ := Rd.slice hru
    have HAn := hid (adj_nat HOk.out hpN)
    have hll := (okG_at HOk.out hpN).1
    obtain ⟨l, hl9⟩ : ∃ l, g.getD p [] = l := ⟨_, rfl⟩
    rw [hl9] at hru HAn hll hku ⊢
    have HRu := hid hru
    have HKu := hid (fun k hk => Nat.lt_of_lt_of_le (hku k hk) (Nat.le_trans HG.out.le HB1.out.size))
    clear hru hku hl9
    go_wp2_with fail
    have hal : (adj g p).length = l.length := by rw [← HAn.out, natI_len]
    have HAl := hid hal
    clear hal
    go_loopw [3, 21] (fun v y wx => ∃ (j : Nat) (fs : List (Nat × Nat)), y = .int .i64 j ∧ j ≤ l.length ∧ fs = es ++ (((adj g p).take j).filter fun t => decide (t ∈ (orderP (adj g)).take (k + 1))).map (fun t => (p, t)) ∧ wx.ownsRow w1.heap.size 76 2 v fs.length (eCells fs) ∧ Below w1.heap.size w1 wx ∧ Below w1.heap.size w2 wx) (fun _ y _ => l.length - (intOf y).toNat)
    case atStart => exact ⟨0, es, rfl, by omega, by simp, HO.out, HBe.out, Below.refl _ _⟩
    case round =>
      obtain ⟨j, fs, rfl, hj, hfs, hown, hbel, hb2w⟩ := hrel
      have HOj := hid hown
      have HBj := hid hbel
      have HFs := hid hfs
      have hfl : fs.length ≤ 9 * k + 9 := by
        rw [hfs, List.length_append, List.length_map]
        have h1 := List.length_filter_le (fun t => decide (t ∈ (orderP (adj g)).take (k + 1))) ((adj g p).take j)
        rw [List.length_take] at h1
        have := HAl.out
        omega
      have HSj := hid (HS1.out.on hbel)
      have HRj := hid (Rd.take (HRo.out.on (HB1.out.trans (hbel.mono HB1.out.size))) (k + 1) (by omega))
      obtain ⟨sv, cv, rfl⟩ := own_slice hown
      have s1 := HSj.out.cell 1
      simp at s1
      clear hown hbel hfs
      by_cases hjt : j < l.length
      · have hja : j < (adj g p).length := by rw [HAl.out]; exact hjt
        have hte : l.getD j 0 = ((adj g p).getD j 0 : Nat) := by rw [← HAn.out, natI_get _ _ hja]
        have HTs := hid (take_snoc (adj g p) j hja)
        obtain ⟨t, htt⟩ : ∃ t, (adj g p).getD j 0 = t := ⟨_, rfl⟩
        rw [htt] at hte HTs
        obtain ⟨a9, c9, e9, h9⟩ := Rd.below HRu.out HKu.out hb2w
        rcases h9 with h9 | ⟨b3, o3, rfl, hb3, hc3⟩
        · rw [h9] at hjt; simp at hjt
        simp only [Value.slice.injEq, true_and, and_true] at e9
        obtain ⟨rfl, rfl⟩ := e9
        have q2 := hc3 j hjt
        rw [hte] at q2
        have hdm : decide ((t : Int) ∈ od.take (k + 1)) = decide (t ∈ (orderP (adj g)).take (k + 1)) := by
          rw [← HOq.out, natI_take]
          exact decide_eq_decide.2 mem_natI'
        have HDm := hid hdm
        have hktl : (od.take (k + 1)).length = k + 1 := by rw [List.length_take]; omega
        have hkl2 : (od.take (k + 1)).length ≤ 4611686018427387904 := by omega
        have hk30 : k ≤ 30 := by omega
        clear hc3 hte htt hdm hktl
        go_wp2_with fail
        refine (contains_c (od.take (k + 1)) t _ _ HRj.out hkl2).mono ?_
        rintro e w3 ⟨rfl, rfl⟩
        rw [HDm.out]
        by_cases htm : t ∈ (orderP (adj g)).take (k + 1)
        · rw [decide_eq_true htm]
          have HN := hid (show fs ++ [(p, t)] = es ++ (((adj g p).take (j + 1)).filter fun t => decide (t ∈ (orderP (adj g)).take (k + 1))).map (fun t => (p, t)) by
            rw [HTs.out, List.filter_append, List.map_append, ← List.append_assoc, ← HFs.out]
            congr 1
            simp [htm])
          have hz3 := HBj.out.size
          clear htm
          go_wp2_with (at_builtin; refine app_edges _ rfl _ _ rfl w1.heap.size fs (p, t) _ rfl (HOj.out.alloc _) _ _ _ rfl rfl (SrcAt.ed _ (p, t) _ rfl) (by omega) (by simp; omega) ?_; intro v7 w7 hown7 ho7; obtain ⟨gs, hgs⟩ : ∃ z, fs ++ [(p, t)] = z := ⟨_, rfl⟩; rw [hgs] at hown7; have HGs := hid hgs; have HO7 := hid hown7; have HOn7 := hid ho7; obtain ⟨s7, c7, rfl⟩ := own_slice hown7; clear hown7 ho7 hgs)
          go_wp2_with fail
          go_roundw
          case rel =>
            have o37 := (Only.of_below (p := fun k => (Value.slice sv fs.length cv).ownBlock = some k) ((Below.refl w3.heap.size w3).alloc (Nat.le_refl _) (.cells #[.int .i64 p, .int .i64 t] 76))).trans HOn7.out
            have hlo : ∀ k, (Value.slice sv fs.length cv).ownBlock = some k → w1.heap.size ≤ k := fun k hk => (HOj.out.lt k hk).1
            exact ⟨j + 1, gs, by go_num, by omega, by rw [← HN.out, HGs.out], HO7.out, HBj.out.trans (o37.below hz3 hlo), hb2w.trans (o37.below hz3 hlo)⟩
          case measure => simp [intOf]; omega
        · rw [decide_eq_false htm]
          have HN := hid (show fs = es ++ (((adj g p).take (j + 1)).filter fun t => decide (t ∈ (orderP (adj g)).take (k + 1))).map (fun t => (p, t)) by
            rw [HTs.out, List.filter_append, List.map_append, ← List.append_assoc, ← HFs.out]
            simp [htm])
          clear htm
          go_wp2_with fail
          go_roundw
          case rel => exact ⟨j + 1, fs, by go_num, by omega, HN.out, HOj.out, HBj.out, hb2w⟩
          case measure => simp [intOf]; omega
      · obtain rfl : j = l.length := by omega
        go_wp2_with fail
        go_roundw
        case rel =>
          refine ⟨k + 1, fs, by go_num, by omega, ?_, HOj.out, HBj.out⟩
          have h1 : (adj g p).take l.length = adj g p := List.take_of_length_le (by rw [HAl.out]; exact Nat.le_refl _)
          rw [HFs.out, h1, HE.out, backsTo_succ]
          unfold backsAt
          rw [HP.out]
        case measure => simp [intOf]; omega
end Go.Proofs.Ytbbhbjdpdhbjlaa.Ge
