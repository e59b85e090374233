/- The program's searched graphs: where a node leads, its order, what is below a node. -/
import Derived.Test.YtbbhbjdpdhbjlaaGs
import Derived.Test.YtbbhbjdpdhbjlaaGl
set_option linter.unusedSimpArgs false
set_option linter.unusedVariables false
namespace Go.Proofs.Ytbbhbjdpdhbjlaa.Ge
open Go.RowKit Pl Ft Mm In Gp

/-- Where a node of a graph leads. -/
def adj (g : List (List Int)) : Nat → List Nat := fun p => (g.getD p []).map Int.toNat
theorem okG_len {g : List (List Int)} (h : okG g = true) : 1 ≤ g.length ∧ g.length ≤ 30 := by
  unfold okG at h
  simp only [Bool.and_eq_true, decide_eq_true_eq] at h
  exact h.1
theorem okG_at {g : List (List Int)} (h : okG g = true) {p : Nat} (hp : p < g.length) : (g.getD p []).length ≤ 9 ∧ ∀ q ∈ g.getD p [], 0 ≤ q ∧ q < g.length := by
  unfold okG at h
  simp only [Bool.and_eq_true, decide_eq_true_eq, List.all_eq_true] at h
  have h1 := h.2 (g.getD p []) (by simp [hp])
  unfold edgesOk at h1
  simp only [Bool.and_eq_true, decide_eq_true_eq, List.all_eq_true] at h1
  exact h1
theorem adj_bd {g : List (List Int)} (h : okG g = true) : Gd (adj g) g.length := by
  refine ⟨(okG_len h).1, fun p hp q hq => ?_⟩
  unfold adj at hq
  obtain ⟨x, hx, rfl⟩ := List.mem_map.1 hq
  have := (okG_at h hp).2 x hx
  omega
theorem adj_nat {g : List (List Int)} (h : okG g = true) {p : Nat} (hp : p < g.length) : natI (adj g p) = g.getD p [] := by
  unfold natI adj
  rw [List.map_map]
  conv => rhs; rw [← List.map_id (g.getD p [])]
  apply List.map_congr_left
  intro x hx
  have := (okG_at h hp).2 x hx
  simp only [Function.comp_apply, id]
  omega
theorem adj_len {g : List (List Int)} (h : okG g = true) {p : Nat} (hp : p < g.length) : (adj g p).length ≤ 9 := by
  unfold adj
  rw [List.length_map]
  exact (okG_at h hp).1
theorem mem_natI {l : List Nat} {x : Int} : x ∈ natI l ↔ ∃ p : Nat, p ∈ l ∧ (p : Int) = x := by
  unfold natI
  rw [List.mem_map]
theorem mem_natI' {l : List Nat} {p : Nat} : (p : Int) ∈ natI l ↔ p ∈ l := by
  rw [mem_natI]
  constructor
  · rintro ⟨q, hq, he⟩
    obtain rfl : q = p := by omega
    exact hq
  · exact fun h => ⟨p, h, rfl⟩
theorem natI_filter (f : Int → Bool) (l : List Nat) : (natI l).filter f = natI (l.filter fun p => f (p : Int)) := by
  unfold natI
  rw [List.filter_map]
  rfl
theorem natI_rev (l : List Nat) : (natI l).reverse = natI l.reverse := by
  unfold natI
  rw [List.map_reverse]
set_option maxHeartbeats 1000000 in
theorem index_c (xs : List Int) (x : Int) (v : Value) (w : World) (h : Rd w v xs) (hl : xs.length ≤ 4611686018427387904) :
    Calls Try.prog 85 #[v, .int .i64 x] w fun e w' => (∃ i : Int, e = .returned (.int .i64 i) ∧ (0 ≤ i ↔ x ∈ xs)) ∧ w' = w := by
  obtain ⟨s, cs, rfl, ha⟩ := h
  have HA := hid ha
  clear ha
  go_enter Try.func85, Try.ntmps85
  go_wp2_with fail
  go_loop [8] (fun y => ∃ k : Nat, y = .int .i64 k ∧ k ≤ xs.length ∧ x ∉ xs.take k) (fun y => xs.length - (intOf y).toNat)
  case atStart => exact ⟨0, rfl, by omega, by simp⟩
  case round =>
    obtain ⟨k, rfl, hk, hno⟩ := hrel
    have HNo := hid hno
    clear hno
    by_cases hlt : k < xs.length
    · rcases HA.out with h | ⟨g, o, rfl, hg, hc⟩
      · subst h; simp at hlt
      have q1 := hc k hlt
      have HT := hid (show xs.take (k + 1) = xs.take k ++ [xs.getD k 0] by rw [List.take_succ_eq_append_getElem hlt]; simp [hlt])
      have HM := hid (show xs.getD k 0 ∈ xs by simp [hlt])
      obtain ⟨y, hy⟩ : ∃ y, xs.getD k 0 = y := ⟨_, rfl⟩
      rw [hy] at q1 HT HM
      clear hc hy
      by_cases hxy : x = y
      · subst hxy
        go_wp2_with fail
        go_ret
        exact ⟨⟨k, rfl, fun _ => HM.out, fun _ => by omega⟩, rfl⟩
      · go_wp2_with fail
        go_round
        case rel => exact ⟨k + 1, by go_num, by omega, by rw [HT.out, List.mem_append]; simp only [List.mem_singleton]; exact fun h => h.elim HNo.out hxy⟩
        case measure => simp [intOf]; omega
    · obtain rfl : k = xs.length := by omega
      go_wp2_with fail
      go_ret
      exact ⟨⟨-1, rfl, fun h => by omega, fun h => absurd (by rw [List.take_length]; exact h) HNo.out⟩, rfl⟩
theorem contains_c (xs : List Int) (x : Int) (v : Value) (w : World) (h : Rd w v xs) (hl : xs.length ≤ 4611686018427387904) :
    Calls Try.prog 62 #[v, .int .i64 x] w fun e w' => e = .returned (.bool (decide (x ∈ xs))) ∧ w' = w := by
  obtain ⟨s, cs, rfl⟩ := Rd.slice h
  have HR := hid h
  clear h
  go_enter Try.func62, Try.ntmps62
  go_wp2_with fail
  refine (index_c xs x _ w HR.out hl).mono ?_
  rintro e w1 ⟨⟨i, rfl, hi⟩, rfl⟩
  by_cases hx : x ∈ xs
  · have h0 := hi.2 hx
    have HX := hid hx
    clear hi hx
    go_wp2_with fail
    go_ret
    exact ⟨bool_eq (decide_eq_true HX.out).symm, rfl⟩
  · have h0 : ¬ 0 ≤ i := fun h => hx (hi.1 h)
    have HX := hid hx
    clear hi hx
    go_wp2_with fail
    go_ret
    exact ⟨bool_eq (by rw [decide_eq_false HX.out, decide_eq_false_iff_not]; omega), rfl⟩
/-- What a graph's node leads to stands in memory. -/
theorem GAt.get {B : Nat} {w : World} {v : Value} {g : List (List Int)} (h : GAt B w v g) {p : Nat} (hp : p < g.length) : ∃ b o cap u su cu, v = .slice (some ⟨b, o, none⟩) g.length cap ∧ u = .slice su (g.getD p []).length cu ∧ w.cell? ⟨b, o + p, none⟩ = some u ∧ Rd w u (g.getD p []) ∧ (∀ k, u.ownBlock = some k → k < B) ∧ b < B := by
  obtain ⟨a, cap, e, h2⟩ := h.rd
  rcases h2 with h2 | ⟨b, o, ea, hb, hc⟩
  · subst h2; simp at hp
  · obtain ⟨u, hu, hr, hk⟩ := hc p hp
    obtain ⟨su, cu, rfl⟩ := Rd.slice hr
    exact ⟨b, o, cap, _, su, cu, by rw [e, ea], rfl, hu, hr, hk, hb⟩
theorem next_c (g : List (List Int)) (p B : Nat) (v : Value) (w : World) (h : GAt B w v g) (hp : p < g.length) (hl : g.length ≤ 1000) :
    Calls Try.prog 72 #[v, .int .i64 p] w fun e w' => ∃ u, e = .returned u ∧ Rd w u (g.getD p []) ∧ (∀ k, u.ownBlock = some k → k < B) ∧ w' = w := by
  obtain ⟨b, o, cap, u, su, cu, rfl, rfl, hu, hr, hk, hb⟩ := h.get hp
  have HR := hid hr
  have HK := hid hk
  obtain ⟨n, hn⟩ : ∃ n, (g.getD p []).length = n := ⟨_, rfl⟩
  rw [hn] at hu HR HK
  clear h hr hk hn
  go_enter Try.func72, Try.ntmps72
  go_wp2_with fail
  go_ret
  exact ⟨_, rfl, HR.out, HK.out, rfl⟩
theorem leads_c (g : List (List Int)) (p B : Nat) (x : Int) (v : Value) (w : World) (h : GAt B w v g) (hp : p < g.length) (hl : g.length ≤ 1000) (hr9 : (g.getD p []).length ≤ 1000) :
    Calls Try.prog 88 #[v, .int .i64 p, .int .i64 x] w fun e w' => e = .returned (.bool (decide (x ∈ g.getD p []))) ∧ w' = w := by
  obtain ⟨b, o, cap, u, su, cu, rfl, rfl, hu, hr, hk, hb⟩ := h.get hp
  have HR := hid hr
  obtain ⟨l, hn⟩ : ∃ n, (g.getD p []) = n := ⟨_, rfl⟩
  rw [hn] at hu HR hr9 ⊢
  clear h hr hk hn
  go_enter Try.func88, Try.ntmps88
  go_wp2_with fail
  refine (contains_c l x _ w HR.out (by omega)).mono ?_
  rintro e w1 ⟨rfl, rfl⟩
  go_wp2_with fail
  go_ret
  exact ⟨rfl, rfl⟩
theorem lds_next {g : List (List Int)} {v : Value} {B : Nat} {w0 : World} (h : GAt B w0 v g) (hok : okG g = true) : Lds (adj g) g.length 72 #[v] #[] w0 where
  call p w hp hb := by
    have hl := okG_len hok
    refine (next_c g p B v w (h.on hb) hp (by omega)).mono ?_
    rintro e w' ⟨u, rfl, hr, hk, rfl⟩
    exact ⟨u, rfl, by rw [adj_nat hok hp]; exact hr, fun k h2 => .inl (Nat.lt_of_lt_of_le (hk k h2) h.le), Below.refl _ _⟩
  enter xs w := by kernel_rfl
  len p hp := by have := adj_len hok hp; omega
theorem res_cell_tmp {fn : Func} {p r : Tmp} {t : TypeId} (h : fn.results = #[.cell p t, .tmp r]) (tmps : Array Value) (w : World) (g : Nat) (cs : Array Value) (fs : Array Field)
    (hp : tmps.getD p undef = .pointer (some ⟨g, 0, none⟩)) (h1 : Row w g t cs) (hu : Try.prog.underlying t = some (.struct fs)) (hi : (Try.prog.info? t).map (·.size) = some cs.size) :
    (results fn tmps).run Try.prog w = .ok (.tuple #[.agg cs, tmps.getD r undef]) w := by
  have hp' : tmps[p]?.getD undef = .pointer (some ⟨g, 0, none⟩) := by simpa using hp
  simp [results, h, hp', asAddr, run_loadVar_row w g t t cs (0, 0) _ h1 hu rfl hi]
theorem size_sd : (Try.prog.info? 48).map (·.size) = some 2 := by kernel_rfl
/-- A searched graph in memory: the graph, and its order. -/
structure Sd (w : World) (vg vo : Value) (g : List (List Int)) : Prop where
  ok : okG g = true
  gr : ∃ B, GAt B w vg g
  od : ∃ lo, w.ownsRow lo 3 1 vo (natI (orderP (adj g))).length (ints (natI (orderP (adj g))))
theorem Sd.on {w w' : World} {vg vo : Value} {g : List (List Int)} (h : Sd w vg vo g) (hb : Below w.heap.size w w') : Sd w' vg vo g := by
  obtain ⟨B, hg⟩ := h.gr
  obtain ⟨lo, ho⟩ := h.od
  exact ⟨h.ok, ⟨B, hg.on hb⟩, ⟨lo, own_on ho hb⟩⟩
theorem Sd.len {w : World} {vg vo : Value} {g : List (List Int)} (h : Sd w vg vo g) : 1 ≤ g.length ∧ g.length ≤ 30 ∧ (orderP (adj g)).length ≤ 30 := by
  have h1 := okG_len h.ok
  have h2 := order_len (adj_bd h.ok)
  omega
theorem lit_blk {w : World} {n : Nat} : ∀ k, (Value.slice (some ⟨w.heap.size, 0, none⟩) n n).ownBlock = some k → k < (w.alloc (.cells #[] 3)).heap.size := by
  intro k hk
  cases hk
  simp
set_option maxRecDepth 100000 in
set_option maxHeartbeats 2000000 in
theorem searchedOf_c (g : List (List Int)) (v : Value) (B : Nat) (w : World) (h : GAt B w v g) (hs : Sz g) :
    Calls Try.prog 49 #[v] w fun e w' => Below w.heap.size w w' ∧ ((okG g = false ∧ e = .returned (.tuple #[.agg #[.slice none 0 0, .slice none 0 0], .bool false])) ∨
      (okG g = true ∧ ∃ vo, e = .returned (.tuple #[.agg #[v, vo], .bool true]) ∧ w'.ownsRow w.heap.size 3 1 vo (natI (orderP (adj g))).length (ints (natI (orderP (adj g)))))) := by
  obtain ⟨s, cs, rfl⟩ := h.slice
  have HG := hid h
  have HS := hid hs
  clear h hs
  have HB1 := hid ((Below.refl w.heap.size w).alloc (Nat.le_refl _) (.cells #[.slice none 0 0, .slice none 0 0] 48))
  have HR1 := hid (Row.new w 48 #[.slice none 0 0, .slice none 0 0])
  go_enter Try.func49, Try.ntmps49
  go_upto_region 1 with fail
  obtain ⟨w1, hw1⟩ : ∃ w1, w.alloc (.cells #[.slice none 0 0, .slice none 0 0] 48) = w1 := ⟨_, rfl⟩
  have hz1 : w1.heap.size = w.heap.size + 1 := by rw [← hw1]; simp
  rw [hw1] at HB1 HR1 ⊢
  have x0 := HR1.out.cell 0
  have x1 := HR1.out.cell 1
  have xf := HR1.out.free
  simp at x0 x1
  obtain ⟨gx, hgx⟩ : ∃ gx, w.heap.size = gx := ⟨_, rfl⟩
  rw [hgx] at HR1 x0 x1 xf
  have HGx := hid hgx
  have HZ := hid hz1
  try rw [hgx]
  clear hw1 hgx hz1
  go_wp2_with fail
  refine (ok_c g _ w1 ((HG.out.on HB1.out).grd) HS.out).mono ?_
  rintro e w2 ⟨rfl, rfl⟩
  cases hok : okG g
  · have HO := hid hok
    clear hok
    go_wp2_with fail
    clear x0 x1 xf
    refine bodyPost_ret (v := .tuple #[.agg #[.slice none 0 0, .slice none 0 0], .bool false]) ?_ rfl ?_
    · exact res_cell_tmp Try.results49 _ _ gx #[.slice none 0 0, .slice none 0 0] _ rfl ((HR1.out.set 0 (.slice none 0 0)).set 1 (.slice none 0 0)) Try.underlying48 size_sd
    have hg := HGx.out
    refine ⟨?_, .inl ⟨HO.out, rfl⟩⟩
    exact (HB1.out.setCell (p := ⟨gx, 0, none⟩) (by simp only; omega) _).setCell (p := ⟨gx, 1, none⟩) (by simp only; omega) _
  · have HO := hid hok
    have hl := okG_len hok
    clear hok
    have HB3 := hid (HB1.out.alloc HB1.out.size (.cells #[.int .i64 0] 3))
    have HRs := hid (show Rd (w2.alloc (.cells #[.int .i64 0] 3)) (.slice (some ⟨w2.heap.size, 0, none⟩) 1 1) (natI [0]) from Rd.of_own (own_lit w2 [0] #[.int .i64 0] rfl (by simp) 1 rfl))
    have HR3 := hid (HR1.out.alloc (.cells #[.int .i64 0] 3))
    have hz3 : (w2.alloc (.cells #[.int .i64 0] 3)).heap.size = w2.heap.size + 1 := by simp
    go_upto_region 3 with fail
    clear x0 x1 xf
    go_wp2_with fail
    have hlds := lds_next (HG.out.on HB3.out) HO.out
    have hn1 : g.length ≤ 1000 := by omega
    have hq0 : ([0] : List Nat).length ≤ 1000 := by simp
    have hvb : ∀ k, (Value.slice (some ⟨w2.heap.size, 0, none⟩) 1 1).ownBlock = some k → k < (w2.alloc (.cells #[.int .i64 0] 3)).heap.size := fun k hk => by cases hk; simp
    have hrc := reached_c (L := adj g) (N := g.length) (F := 72) (rs := #[.slice s g.length cs]) (cs := #[]) [0] (.slice (some ⟨w2.heap.size, 0, none⟩) 1 1) (w2.alloc (.cells #[.int .i64 0] 3)) hlds (adj_bd HO.out).bd hn1 (st_lt (adj_bd HO.out)) hq0 HRs.out hvb
    refine hrc.mono ?_
    clear hrc hlds hvb
    rintro e w4 ⟨v4, rfl, hown4, hb4⟩
    have HB4 := hid (HB3.out.trans (hb4.mono HB3.out.size))
    have HR4 := hid (HR3.out.on hb4)
    have hz4 := hb4.size
    have hlf := (left_facts (adj_bd HO.out) [0] (st_lt (adj_bd HO.out)))
    have hln := nodup_le g.length _ hlf.nd hlf.lt
    have HO4 := hid (own_mono hown4 HB3.out.size)
    have hll : (natI (Gp.leftOf (adj g) [0] [])).length ≤ 1000000 := by rw [natI_len]; omega
    obtain ⟨xs, hxs⟩ : ∃ xs, natI (Gp.leftOf (adj g) [0] []) = xs := ⟨_, rfl⟩
    rw [hxs] at HO4 hll hown4
    have HXs := hid hxs
    obtain ⟨s4, c4, rfl⟩ := own_slice hown4
    clear hown4 hb4 hxs hlf hln hz3
    go_wp2_with fail
    refine (rev_c w.heap.size xs _ w4 HO4.out hll).mono ?_
    rintro e w5 ⟨rfl, hown5, ho5⟩
    have HO5 := hid hown5
    have hne : ∀ k, (Value.slice s4 xs.length c4).ownBlock = some k → w.heap.size < k := fun k hk => by
      have h1 := HO4.out.lt k hk
      rcases Nat.lt_or_ge w.heap.size k with h2 | h2
      · exact h2
      · exfalso
        have h3 : k = w.heap.size := by omega
        have hg := HGx.out
        exact no_own HR4.out HO4.out (by decide) (by rw [hk, h3, hg])
    have HR5 := hid (row_only HR4.out (fun h => by have := hne gx h; have := HGx.out; omega) ho5)
    have HB5 := hid (HB4.out.trans (ho5.below HB4.out.size (fun k hk => by have := hne k hk; omega)))
    have HNe := hid hne
    clear hown5 ho5 hne
    have x0 := HR5.out.cell 0
    have x1 := HR5.out.cell 1
    have xf := HR5.out.free
    simp at x0 x1
    go_wp2_with fail
    clear x0 x1 xf
    have hex : xs.reverse = natI (orderP (adj g)) := by rw [← HXs.out, natI_rev]; rfl
    have hel : (natI (orderP (adj g))).length = xs.length := by rw [← hex, List.length_reverse]
    have hg := HGx.out
    refine bodyPost_ret (v := .tuple #[.agg #[.slice s g.length cs, .slice s4 xs.length c4], .bool true]) ?_ rfl ?_
    · exact res_cell_tmp Try.results49 _ _ gx #[.slice s g.length cs, .slice s4 xs.length c4] _ rfl ((HR5.out.set 0 (.slice s g.length cs)).set 1 (.slice s4 xs.length c4)) Try.underlying48 size_sd
    have hon : ∀ {wx : World}, Only (fun k => k = gx) w5 wx → wx.ownsRow w.heap.size 3 1 (.slice s4 xs.length c4) xs.length (ints xs.reverse) := fun h => own_only HO5.out (fun k hk h2 => by have := HNe.out k hk; omega) h
    rw [← hex, List.length_reverse] 
    exact ⟨(HB5.out.setCell (p := ⟨gx, 0, none⟩) (by simp only; omega) _).setCell (p := ⟨gx, 1, none⟩) (by simp only; omega) _, .inr ⟨HO.out, _, rfl, hon (((Only.refl (fun k => k = gx) w5).setCell (g := gx) rfl 0 _).setCell (g := gx) rfl 1 _)⟩⟩
end Go.Proofs.Ytbbhbjdpdhbjlaa.Ge
