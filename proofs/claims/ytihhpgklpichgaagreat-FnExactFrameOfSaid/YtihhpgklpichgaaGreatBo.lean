/- reachedFrom by a closure that writes memory of its own; the closure of body. -/
import Derived.Test.YtihhpgklpichgaaGreatRf
import Derived.Test.YtihhpgklpichgaaGreatPl
import Derived.Test.YtihhpgklpichgaaGreatFo
import Derived.Deep.RegionLaw
set_option linter.unusedSimpArgs false
set_option linter.unusedVariables false
namespace Go.Proofs.YtihhpgklpichgaaGreat.Wk
open Go.RowKit Pl Ft Mm In C2 Im Sw

def bodyL (code : List Int) (ms : List Nat) : List Int := (insOf code ms).map fun (p : Nat) => (p : Int)
theorem bodyL_no {code : List Int} {ms : List Nat} {p : Nat} (h : readP code p = none) : bodyL code (ms ++ [p]) = bodyL code ms := by
  unfold bodyL
  rw [insOf_push, h]
theorem bodyL_yes {code : List Int} {ms : List Nat} {p : Nat} {i : IIns} (h : readP code p = some i) : bodyL code (ms ++ [p]) = bodyL code ms ++ [(p : Int)] := by
  unfold bodyL
  rw [insOf_push, h]
  simp
theorem gm_no {code : List Int} {p : Nat} (h : readP code p = none) (c : Bool) : Gm code c p = [] := by unfold Gm; rw [h]
theorem gm_off {code : List Int} {p : Nat} {i : IIns} (h : readP code p = some i) : Gm code false p = nextsP code i (p + slong i) := by
  unfold Gm
  rw [h]
  simp
/-- What the closure stands on: the walk, its box, the list's box, and the list so far. -/
structure BdSt (code : List Int) (gl : Nat) (wS : World) (ms : List Nat) (T : Nat → Prop) (w : World) : Prop where
  ex : ∃ lv, T = (fun k => k < wS.heap.size ∨ lv.ownBlock = some k) ∧ Row w gl 22 #[lv] ∧ w.ownsRow wS.heap.size 3 1 lv (bodyL code ms).length (ints (bodyL code ms))
  only : Only (fun k => k = gl) wS w
  len : (bodyL code ms).length ≤ 100001
theorem BdSt.on {code : List Int} {gl : Nat} {wS : World} {ms : List Nat} {T z : Nat → Prop} {w w' : World} (h : BdSt code gl wS ms T w) (hgl : gl < wS.heap.size) (hz : ∀ k, z k → ¬ T k) (ho : Only z w w') : BdSt code gl wS ms T w' := by
  obtain ⟨lv, hT, hrow, hown⟩ := h.ex
  refine ⟨⟨lv, hT, row_only hrow (fun hk => hz _ hk (by rw [hT]; exact .inl hgl)) ho, own_only hown (fun k hk hk2 => hz _ hk2 (by rw [hT]; exact .inr hk)) ho⟩, only_mix h.only ho (fun k hk => ?_), h.len⟩
  rcases Nat.lt_or_ge k wS.heap.size with h1 | h1
  · exact absurd (by rw [hT]; exact .inl h1) (hz k hk)
  · exact .inr h1
theorem BdSt.lt {code : List Int} {gl : Nat} {wS : World} {ms : List Nat} {T : Nat → Prop} {w : World} (h : BdSt code gl wS ms T w) (k : Nat) (hk : T k) : k < w.heap.size := by
  obtain ⟨lv, hT, hrow, hown⟩ := h.ex
  rw [hT] at hk
  have := h.only.size
  rcases hk with h1 | h1
  · omega
  · exact (hown.lt k h1).2
theorem mt_stop (w : World) : (method 342 141 (.agg #[]) "loop.example/liftedcode/impl.ways").run Tryz.prog w = .ok (207, .agg #[]) w := by kernel_rfl
theorem mt_next (x : Int) (w : World) : (method 342 147 (.agg #[.int .i64 x]) "loop.example/liftedcode/impl.ways").run Tryz.prog w = .ok (151, .agg #[.int .i64 x]) w := by kernel_rfl
theorem mt_jump (x : Int) (w : World) : (method 342 143 (.agg #[.int .i64 x]) "loop.example/liftedcode/impl.ways").run Tryz.prog w = .ok (208, .agg #[.int .i64 x]) w := by kernel_rfl
theorem mt_if (x y : Int) (w : World) : (method 342 145 (.agg #[.int .i64 x, .int .i64 y]) "loop.example/liftedcode/impl.ways").run Tryz.prog w = .ok (209, .agg #[.int .i64 x, .int .i64 y]) w := by kernel_rfl
theorem mt_call (x y : Int) (w : World) : (method 342 149 (.agg #[.int .i64 x, .int .i64 y]) "loop.example/liftedcode/impl.ways").run Tryz.prog w = .ok (151, .agg #[.int .i64 x]) w := by kernel_rfl
theorem mt_table (v : Value) (b : Bool) (x : Int) (w : World) : (method 342 151 (.agg #[v, .bool b, .int .i64 x]) "loop.example/liftedcode/impl.ways").run Tryz.prog w = .ok (210, .agg #[v, .bool b, .int .i64 x]) w := by kernel_rfl
def BdPost (code : List Int) (gl : Nat) (wS : World) (ms : List Nat) (T : Nat → Prop) (p : Nat) (w : World) (e : Ending) (w' : World) : Prop :=
  ∃ v T' B', e = .returned v ∧ w.heap.size ≤ B' ∧ (∀ k, T' k → k < B') ∧ w'.ownsRow B' 3 1 v (Gm code false p).length (ints (Gm code false p)) ∧ BdSt code gl wS (ms ++ [p]) T' w' ∧ (∀ k, T' k → T k ∨ w.heap.size ≤ k) ∧ Only T w w'
theorem readIns_zero (w : World) (p : Nat) {b : Nat} {code : List Int} {ms : List Nat} (h : MapAt w b code ms) (hp : p ∉ ms) : (Instr.lookup 86 (.map (some b)) (.int .i64 p) true).run Tryz.prog w = .ok (.tuple #[.agg #[.int .i64 0, .int .i64 0, .int .i64 0, .int .i64 0, .int .i64 0], .bool false]) w := look_no h hp
set_option maxRecDepth 100000 in
set_option maxHeartbeats 8000000 in
theorem bodyFn_c (code : List Int) (ac : Option Addr) (cc : Nat) (lb : Value) (gw gm gp gl : Nat) (ms0 : List Nat) (w00 wS : World) (ms : List Nat) (T : Nat → Prop) (p : Nat) (w : World)
    (hr : Rd w00 (.slice ac code.length cc) code) (hcap : code.length ≤ cc) (hb00 : Below w00.heap.size w00 wS) (hgl0 : w00.heap.size ≤ gl) (hgl : gl < wS.heap.size) (hby : code.all isByte = true) (hlen : code.length ≤ 2000)
    (hw : Row wS gw 88 #[.slice ac code.length cc, .map (some gm), lb]) (hm : MapAt wS gm code ms0) (hp : Row wS gp 52 #[.pointer (some ⟨gw, 0, none⟩)]) (h1 : gw ≠ gl) (h2 : gm ≠ gl) (h3 : gp ≠ gl)
    (hin : p ∈ ms0 ↔ (readP code p).isSome = true) (hpN : p ≤ 100000) (hI : BdSt code gl wS ms T w) (hln : (bodyL code (ms ++ [p])).length ≤ 100001) :
    Calls Tryz.prog 99 #[.int .i64 p, .pointer (some ⟨gp, 0, none⟩), .pointer (some ⟨gl, 0, none⟩)] w (BdPost code gl wS ms T p w) := by
  obtain ⟨lv, rfl, hrow, hown⟩ := hI.ex
  have HI := hid hI
  have HRow := hid hrow
  have HOwn := hid hown
  have HLn := hid hln
  have hzS := hI.only.size
  have HW := hid (row_only hw h1 hI.only)
  have HM := hid (hm.only h2 hI.only)
  have HP := hid (row_only hp h3 hI.only)
  have HS0 := hid hb00.size
  have HBw := hid (hb00.trans (hI.only.below hb00.size (fun k hk => by rw [hk]; exact hgl0)))
  have HRd := hid (hr.on HBw.out)
  have HRS := hid hr
  have HB00 := hid hb00
  have HBy := hid hby
  have hbl := hI.len
  obtain ⟨ls, lc, rfl⟩ := own_slice hown
  have p0 := HP.out.cell 0
  have y0 := HW.out.cell 0
  have y1 := HW.out.cell 1
  have l0 := HRow.out.cell 0
  have lf := HRow.out.free
  simp at p0 y0 y1 l0
  clear hr hb00 hw hm hp hI hrow hown hby hln
  cases ho : readP code p with
  | none =>
    have hni : p ∉ ms0 := fun h => by have := hin.1 h; rw [ho] at this; cases this
    have hlk := readIns_zero w p HM.out hni
    have HG := hid (gm_no ho false)
    have HBn := hid (bodyL_no (ms := ms) ho)
    have HB1 := hid ((Below.refl w.heap.size w).alloc (Nat.le_refl _) (.cells #[.int .i64 0, .int .i64 0, .int .i64 0, .int .i64 0, .int .i64 0] 112))
    have HRd2 := hid ho
    clear ho hni hin
    go_enter Tryz.func99, Tryz.ntmps99
    go_wp2_with fail
    go_ret
    have ho1 := Only.of_below (p := fun k => False) HB1.out
    refine ⟨_, _, w.heap.size, rfl, Nat.le_refl _, fun k hk => HI.out.lt k hk, by rw [HG.out]; exact World.ownsRow_nil _ _ _ _, ?_, fun k hk => .inl hk, ho1.mono (fun k h => h.elim)⟩
    have h := HI.out.on hgl (z := fun k => False) (fun k h => h.elim) ho1
    exact ⟨by rw [HBn.out]; exact h.ex, h.only, by rw [HBn.out]; exact h.len⟩
  | some i =>
    have hmi : p ∈ ms0 := hin.2 (by rw [ho]; rfl)
    have hlk := look_yes HM.out hmi
    have hrdo : rdOf code p = rdArr i (p + slong i) := by unfold rdOf nextP; rw [ho]; rfl
    have hf := readP_facts ho
    have HV := hid hf.2.1
    have HTl := hid (show i.op = 30 → ((tabP code i).getD []).length ≤ 1000000 from fun h30 => by have := tab_len (code := code) (valid_b hf.2.1 h30); omega)
    have HG := hid (gm_off ho)
    have HBn := hid (bodyL_yes (ms := ms) ho)
    rw [hrdo] at hlk
    unfold rdArr at hlk
    obtain ⟨op, ia, ib, n⟩ := i
    obtain ⟨x, hx⟩ : ∃ x, (p : Int) + slong ⟨op, ia, ib, n⟩ = x := ⟨_, rfl⟩
    rw [hx] at hlk HG
    simp only at hlk
    obtain ⟨bl, hbL⟩ : ∃ l, bodyL code ms = l := ⟨_, rfl⟩
    rw [hbL] at hbl HOwn HBn l0 HRow
    have HBl := hid hbL
    obtain ⟨w1, hw1, hr1, hb1, hz1⟩ := new_ex w 112 #[.int .i64 op, .int .i64 ia, .int .i64 ib, .int .i64 n, .int .i64 x]
    have HX1 := hid hr1
    have HB1 := hid hb1
    have HOw1 := hid (own_on HOwn.out hb1)
    have HRow1 := hid (HRow.out.on hb1)
    have HP1 := hid (HP.out.on hb1)
    have HW1 := hid (HW.out.on hb1)
    have hglw := HRow.out.lt
    have hrS := HRS.out
    clear ho hmi hin hrdo hf hx hbL hr1 hb1
    go_enter Tryz.func99, Tryz.ntmps99
    go_upto_region 4 with fail
    clear hw1 hlk p0 y0 y1 l0 lf
    have l0 := HRow1.out.cell 0
    simp at l0
    obtain ⟨gx, hgx⟩ : ∃ g, w.heap.size = g := ⟨_, rfl⟩
    rw [hgx] at HX1
    try rw [hgx]
    have HGx := hid hgx
    have hzz : wS.heap.size ≤ gx := by omega
    have hgx1 : gx < w1.heap.size := HX1.out.lt
    have hgw1 := HW1.out.lt
    have hgp1 := HP1.out.lt
    clear hgx
    go_upto_region 5 with (at_builtin; refine app_ints _ rfl _ _ rfl wS.heap.size bl [(p : Int)] _ rfl (HOw1.out.alloc _) _ _ _ rfl rfl (SrcAt.at_ _ [(p : Int)] #[.int .i64 p] _ 1 rfl (by simp) rfl) (by simp; omega) (by simp; omega) ?_; intro v2 w2 hg2; have HO2 := hid hg2.own; have HG2 := hid hg2; have hba := (Below.refl w1.heap.size w1).alloc (Nat.le_refl _) (.cells #[.int .i64 p] 3); have HRow2 := hid (hg2.row (HRow1.out.on hba) (no_own (HRow1.out.on hba) (HOw1.out.alloc (.cells #[.int .i64 p] 3)) (by decide))); have HX2 := hid (hg2.row (HX1.out.on hba) (no_own (HX1.out.on hba) (HOw1.out.alloc (.cells #[.int .i64 p] 3)) (by decide))); have HP2 := hid (hg2.row (HP1.out.on hba) (no_own (HP1.out.on hba) (HOw1.out.alloc (.cells #[.int .i64 p] 3)) (by decide))); have HW2 := hid (hg2.row (HW1.out.on hba) (no_own (HW1.out.on hba) (HOw1.out.alloc (.cells #[.int .i64 p] 3)) (by decide))); have hown2 := hg2.own; obtain ⟨b2, hb2⟩ : ∃ b, bl ++ [(p : Int)] = b := ⟨_, rfl⟩; rw [hb2] at hown2; have HB2 := hid hb2; have HOb := hid hown2; obtain ⟨s2, c2, rfl⟩ := own_slice hown2; have l2 := HRow2.out.free; have l3 := HRow2.out.cell 0; simp at l3; clear hg2 hba hown2 hb2)
    have hb2l : b2.length = bl.length + 1 := by rw [← HB2.out]; simp
    have HB2l := hid hb2l
    have HRow3 := hid (HRow2.out.set 0 (.slice s2 b2.length c2))
    have HX3 := hid (HX2.out.far (p := ⟨gl, 0, none⟩) (by simp only; omega) (.slice s2 b2.length c2))
    have HP3 := hid (HP2.out.far (p := ⟨gl, 0, none⟩) h3 (.slice s2 b2.length c2))
    have HW3 := hid (HW2.out.far (p := ⟨gl, 0, none⟩) h1 (.slice s2 b2.length c2))
    have HO3 := hid (own_far HOb.out (p := ⟨gl, 0, none⟩) (fun g hg => by have := (HOb.out.lt g hg).1; simp only; omega) (.slice s2 b2.length c2))
    have hoA : Only (fun k => k = gl ∨ (Value.slice ls bl.length lc).ownBlock = some k) w w2 :=
      (Only.of_below HB1.out).trans ((Only.of_below ((Below.refl w1.heap.size w1).alloc (Nat.le_refl _) (.cells #[.int .i64 p] 3))).trans ((grows_only HG2.out).mono (fun k hk => .inr hk)))
    have hoB := hoA.setCell (g := gl) (.inl rfl) 0 (.slice s2 b2.length c2)
    have HOnT := hid (hoB.mono (q := fun k => k < wS.heap.size ∨ (Value.slice ls bl.length lc).ownBlock = some k) (fun k hk => by rcases hk with rfl | h; exact .inl hgl; exact .inr h))
    have HOnS := hid (only_mix HI.out.only hoB (fun k hk => by
      rcases hk with h | h
      · exact .inl h
      · exact .inr (HOwn.out.lt k h).1))
    have HTs := hid (show ∀ k, (k < wS.heap.size ∨ (Value.slice s2 b2.length c2).ownBlock = some k) → (k < wS.heap.size ∨ (Value.slice ls bl.length lc).ownBlock = some k) ∨ w.heap.size ≤ k from fun k hk => by
      rcases hk with h | h
      · exact .inl (.inl h)
      · rcases HG2.out.at_ with h4 | ⟨g', h4, h5⟩
        · have h7 : (Value.slice s2 b2.length c2).ownBlock = (Value.slice ls bl.length lc).ownBlock := by cases s2 <;> exact h4
          exact .inl (.inr (h7.symm.trans h))
        · have h7 : (Value.slice s2 b2.length c2).ownBlock = some g' := by cases s2 <;> exact h4
          have h6 : some g' = some k := h7.symm.trans h
          cases h6
          simp only [World.size_alloc] at h5
          exact .inr (by omega))
    have HSt := hid (show BdSt code gl wS (ms ++ [p]) (fun k => k < wS.heap.size ∨ (Value.slice s2 b2.length c2).ownBlock = some k) (w2.setCell ⟨gl, 0, none⟩ (.slice s2 b2.length c2)) from ⟨⟨_, rfl, HRow3.out, by rw [HBn.out, HB2.out]; exact HO3.out⟩, HOnS.out, HLn.out⟩)
    have hz3 : wS.heap.size ≤ (w2.setCell ⟨gl, 0, none⟩ (.slice s2 b2.length c2)).heap.size := HOnS.out.size
    have hzw := HOnT.out.size
    have HRd3 := hid (Rd.on hrS (HB00.out.trans (HOnS.out.below (B := w00.heap.size) HS0.out (fun k hk => by rw [hk]; exact hgl0))))
    clear l0 l2 l3 hoA hoB
    generalize w2.setCell ⟨gl, 0, none⟩ (.slice s2 b2.length c2) = w3 at HRow3 HX3 HP3 HW3 HO3 HOnT HOnS HSt hz3 hzw HRd3 ⊢
    have x0 := HX3.out.cell 0
    have x1 := HX3.out.cell 1
    have x2 := HX3.out.cell 2
    have x3 := HX3.out.cell 3
    have x4 := HX3.out.cell 4
    have y0 := HW3.out.cell 0
    have p0 := HP3.out.cell 0
    simp at x0 x1 x2 x3 x4 y0 p0
    by_cases h0 : op = 0 ∨ op = 1
    · have HEx := hid (show ∀ tv, exVal ⟨op, ia, ib, n⟩ x tv (tabP code ⟨op, ia, ib, n⟩).isSome = .iface 141 (.agg #[]) from fun tv => by unfold exVal; rw [if_pos h0])
      have HNx := hid (show nextsP code ⟨op, ia, ib, n⟩ x = [] by unfold nextsP; rw [if_pos h0])
      have hmt := mt_stop
      clear h0
      go_region_law (first
        | (go_simp; go_at_call 100; refine (exitOf_c code _ ⟨op, ia, ib, n⟩ x w3.drew (Rd.on HRd3.out ((Below.refl _ _).drew)) (fun a k c h => by cases h; exact hcap) HBy.out hlen HV.out).mono ?_; rintro e w4 ⟨tv, rfl, hown4, hb4⟩; rw [HEx.out tv]; have HO4 := hid hown4; have HB4 := hid hb4; clear hown4 hb4)
        | (go_simp; go_at_call 207; refine (stopWays_c _).mono ?_; rintro e w5 ⟨v5, rfl, hown5, hb5⟩; have HO5 := hid hown5; have HB5 := hid hb5; obtain ⟨s5, c5, rfl⟩ := own_slice hown5; clear hown5 hb5))
      all_goals
        go_wp2_with fail
        go_ret
        have hb35 := (Below.refl w3.heap.size w3).drew.trans (HB4.out.trans (HB5.out.mono HB4.out.size))
        have hb34 := HB4.out.size
        refine ⟨_, _, w4.heap.size, rfl, by simp only [World.drew] at hb34; omega, fun k hk => by have := HSt.out.lt k hk; simp only [World.drew] at hb34; omega, ?_, HSt.out.on hgl (z := fun k => False) (fun k h => h.elim) (Only.of_below hb35), by rw [HBl.out]; exact HTs.out, by rw [HBl.out]; exact HOnT.out.trans (.of_below hb35)⟩
        rw [HG.out, HNx.out]
        exact HO5.out
    by_cases h27 : op = 27
    · have HEx := hid (show ∀ tv, exVal ⟨op, ia, ib, n⟩ x tv (tabP code ⟨op, ia, ib, n⟩).isSome = .iface 143 (.agg #[.int .i64 n]) from fun tv => by unfold exVal; rw [if_neg h0, if_pos h27])
      have HNx := hid (show nextsP code ⟨op, ia, ib, n⟩ x = [n] by unfold nextsP; rw [if_neg h0, if_pos h27])
      have hmt := mt_jump n
      clear h0 h27
      go_region_law (first
        | (go_simp; go_at_call 100; refine (exitOf_c code _ ⟨op, ia, ib, n⟩ x w3.drew (Rd.on HRd3.out ((Below.refl _ _).drew)) (fun a k c h => by cases h; exact hcap) HBy.out hlen HV.out).mono ?_; rintro e w4 ⟨tv, rfl, hown4, hb4⟩; rw [HEx.out tv]; have HO4 := hid hown4; have HB4 := hid hb4; clear hown4 hb4)
        | (go_simp; go_at_call 208; refine (jumpWays_c n _).mono ?_; rintro e w5 ⟨v5, rfl, hown5, hb5⟩; have HO5 := hid hown5; have HB5 := hid hb5; obtain ⟨s5, c5, rfl⟩ := own_slice hown5; clear hown5 hb5))
      all_goals
        go_wp2_with fail
        go_ret
        have hb35 := (Below.refl w3.heap.size w3).drew.trans (HB4.out.trans (HB5.out.mono HB4.out.size))
        have hb34 := HB4.out.size
        refine ⟨_, _, w4.heap.size, rfl, by simp only [World.drew] at hb34; omega, fun k hk => by have := HSt.out.lt k hk; simp only [World.drew] at hb34; omega, ?_, HSt.out.on hgl (z := fun k => False) (fun k h => h.elim) (Only.of_below hb35), by rw [HBl.out]; exact HTs.out, by rw [HBl.out]; exact HOnT.out.trans (.of_below hb35)⟩
        rw [HG.out, HNx.out]
        exact HO5.out
    by_cases h28 : op = 28
    · have HEx := hid (show ∀ tv, exVal ⟨op, ia, ib, n⟩ x tv (tabP code ⟨op, ia, ib, n⟩).isSome = .iface 145 (.agg #[.int .i64 n, .int .i64 x]) from fun tv => by unfold exVal; rw [if_neg h0, if_neg h27, if_pos h28])
      have HNx := hid (show nextsP code ⟨op, ia, ib, n⟩ x = [n] ++ [x] by unfold nextsP; rw [if_neg h0, if_neg h27, if_pos h28])
      have hmt := mt_if n x
      clear h0 h27 h28
      go_region_law (first
        | (go_simp; go_at_call 100; refine (exitOf_c code _ ⟨op, ia, ib, n⟩ x w3.drew (Rd.on HRd3.out ((Below.refl _ _).drew)) (fun a k c h => by cases h; exact hcap) HBy.out hlen HV.out).mono ?_; rintro e w4 ⟨tv, rfl, hown4, hb4⟩; rw [HEx.out tv]; have HO4 := hid hown4; have HB4 := hid hb4; clear hown4 hb4)
        | (go_simp; go_at_call 209; refine (ifWays_c n x _).mono ?_; rintro e w5 ⟨v5, rfl, hown5, hb5⟩; have HO5 := hid hown5; have HB5 := hid hb5; obtain ⟨s5, c5, rfl⟩ := own_slice hown5; clear hown5 hb5))
      all_goals
        go_wp2_with fail
        go_ret
        have hb35 := (Below.refl w3.heap.size w3).drew.trans (HB4.out.trans (HB5.out.mono HB4.out.size))
        have hb34 := HB4.out.size
        refine ⟨_, _, w4.heap.size, rfl, by simp only [World.drew] at hb34; omega, fun k hk => by have := HSt.out.lt k hk; simp only [World.drew] at hb34; omega, ?_, HSt.out.on hgl (z := fun k => False) (fun k h => h.elim) (Only.of_below hb35), by rw [HBl.out]; exact HTs.out, by rw [HBl.out]; exact HOnT.out.trans (.of_below hb35)⟩
        rw [HG.out, HNx.out]
        exact HO5.out
    by_cases h29 : op = 29
    · have HEx := hid (show ∀ tv, exVal ⟨op, ia, ib, n⟩ x tv (tabP code ⟨op, ia, ib, n⟩).isSome = .iface 149 (.agg #[.int .i64 x, .int .i64 n]) from fun tv => by unfold exVal; rw [if_neg h0, if_neg h27, if_neg h28, if_pos h29])
      have HNx := hid (show nextsP code ⟨op, ia, ib, n⟩ x = [] ++ [x] by unfold nextsP; rw [if_neg h0, if_neg h27, if_neg h28, if_neg (show ¬ op = 30 by omega)])
      have hmt := mt_call x n
      clear h0 h27 h28 h29
      go_region_law (first
        | (go_simp; go_at_call 100; refine (exitOf_c code _ ⟨op, ia, ib, n⟩ x w3.drew (Rd.on HRd3.out ((Below.refl _ _).drew)) (fun a k c h => by cases h; exact hcap) HBy.out hlen HV.out).mono ?_; rintro e w4 ⟨tv, rfl, hown4, hb4⟩; rw [HEx.out tv]; have HO4 := hid hown4; have HB4 := hid hb4; clear hown4 hb4)
        | (go_simp; go_at_call 151; refine (nextWays_c x _).mono ?_; rintro e w5 ⟨v5, rfl, hown5, hb5⟩; have HO5 := hid hown5; have HB5 := hid hb5; obtain ⟨s5, c5, rfl⟩ := own_slice hown5; clear hown5 hb5))
      all_goals
        go_wp2_with fail
        go_ret
        have hb35 := (Below.refl w3.heap.size w3).drew.trans (HB4.out.trans (HB5.out.mono HB4.out.size))
        have hb34 := HB4.out.size
        refine ⟨_, _, w4.heap.size, rfl, by simp only [World.drew] at hb34; omega, fun k hk => by have := HSt.out.lt k hk; simp only [World.drew] at hb34; omega, ?_, HSt.out.on hgl (z := fun k => False) (fun k h => h.elim) (Only.of_below hb35), by rw [HBl.out]; exact HTs.out, by rw [HBl.out]; exact HOnT.out.trans (.of_below hb35)⟩
        rw [HG.out, HNx.out]
        exact HO5.out
    by_cases h30 : op = 30
    · have HEx := hid (show ∀ tv, exVal ⟨op, ia, ib, n⟩ x tv (tabP code ⟨op, ia, ib, n⟩).isSome = .iface 151 (.agg #[tv, .bool (tabP code ⟨op, ia, ib, n⟩).isSome, .int .i64 x]) from fun tv => by unfold exVal; rw [if_neg h0, if_neg h27, if_neg h28, if_neg h29, if_pos h30])
      have HNx := hid (show nextsP code ⟨op, ia, ib, n⟩ x = (tabP code ⟨op, ia, ib, n⟩).getD [] ++ [x] by unfold nextsP; rw [if_neg h0, if_neg h27, if_neg h28, if_pos h30])
      have hmt := fun tv b => mt_table tv b x
      have H30 := hid h30
      clear h0 h27 h28 h29 h30
      go_region_law (first
        | (go_simp; go_at_call 100; refine (exitOf_c code _ ⟨op, ia, ib, n⟩ x w3.drew (Rd.on HRd3.out ((Below.refl _ _).drew)) (fun a k c h => by cases h; exact hcap) HBy.out hlen HV.out).mono ?_; rintro e w4 ⟨tv, rfl, hown4, hb4⟩; rw [HEx.out tv]; have HO4 := hid hown4; have HB4 := hid hb4; clear hown4 hb4)
        | (go_simp; go_at_call 210; refine (tableWays_c ((tabP code ⟨op, ia, ib, n⟩).getD []) w3.drew.heap.size _ _ x w4 (HO4.out H30.out) (HTl.out H30.out)).mono ?_; rintro e w5 ⟨v5, rfl, hown5, hb5⟩; obtain ⟨ys, hys⟩ : ∃ ys, (tabP code ⟨op, ia, ib, n⟩).getD [] ++ [x] = ys := ⟨_, rfl⟩; rw [hys] at hown5; have HYs := hid hys; clear hys; have HO5 := hid hown5; have HB5 := hid hb5; obtain ⟨s5, c5, rfl⟩ := own_slice hown5; clear hown5 hb5))
      all_goals
        go_wp2_with fail
        go_ret
        have hb35 := (Below.refl w3.heap.size w3).drew.trans (HB4.out.trans (HB5.out.mono HB4.out.size))
        have hb34 := HB4.out.size
        refine ⟨_, _, w4.heap.size, rfl, by simp only [World.drew] at hb34; omega, fun k hk => by have := HSt.out.lt k hk; simp only [World.drew] at hb34; omega, ?_, HSt.out.on hgl (z := fun k => False) (fun k h => h.elim) (Only.of_below hb35), by rw [HBl.out]; exact HTs.out, by rw [HBl.out]; exact HOnT.out.trans (.of_below hb35)⟩
        rw [HG.out, HNx.out, HYs.out]
        exact HO5.out
    have HEx := hid (show ∀ tv, exVal ⟨op, ia, ib, n⟩ x tv (tabP code ⟨op, ia, ib, n⟩).isSome = .iface 147 (.agg #[.int .i64 x]) from fun tv => by unfold exVal; rw [if_neg h0, if_neg h27, if_neg h28, if_neg h29, if_neg h30])
    have HNx := hid (show nextsP code ⟨op, ia, ib, n⟩ x = [] ++ [x] by unfold nextsP; rw [if_neg h0, if_neg h27, if_neg h28, if_neg h30])
    have hmt := mt_next x
    clear h0 h27 h28 h29 h30
    go_region_law (first
      | (go_simp; go_at_call 100; refine (exitOf_c code _ ⟨op, ia, ib, n⟩ x w3.drew (Rd.on HRd3.out ((Below.refl _ _).drew)) (fun a k c h => by cases h; exact hcap) HBy.out hlen HV.out).mono ?_; rintro e w4 ⟨tv, rfl, hown4, hb4⟩; rw [HEx.out tv]; have HO4 := hid hown4; have HB4 := hid hb4; clear hown4 hb4)
      | (go_simp; go_at_call 151; refine (nextWays_c x _).mono ?_; rintro e w5 ⟨v5, rfl, hown5, hb5⟩; have HO5 := hid hown5; have HB5 := hid hb5; obtain ⟨s5, c5, rfl⟩ := own_slice hown5; clear hown5 hb5))
    all_goals
      go_wp2_with fail
      go_ret
      have hb35 := (Below.refl w3.heap.size w3).drew.trans (HB4.out.trans (HB5.out.mono HB4.out.size))
      have hb34 := HB4.out.size
      refine ⟨_, _, w4.heap.size, rfl, by simp only [World.drew] at hb34; omega, fun k hk => by have := HSt.out.lt k hk; simp only [World.drew] at hb34; omega, ?_, HSt.out.on hgl (z := fun k => False) (fun k h => h.elim) (Only.of_below hb35), by rw [HBl.out]; exact HTs.out, by rw [HBl.out]; exact HOnT.out.trans (.of_below hb35)⟩
      rw [HG.out, HNx.out]
      exact HO5.out
end Go.Proofs.YtihhpgklpichgaaGreat.Wk
