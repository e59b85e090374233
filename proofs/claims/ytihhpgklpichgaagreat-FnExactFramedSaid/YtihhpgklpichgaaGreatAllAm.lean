/- AllAm: several texts in one. -/
import Derived.Test.YtihhpgklpichgaaGreatRf
import Derived.Test.YtihhpgklpichgaaGreatPl
import Derived.Test.YtihhpgklpichgaaGreatFo
import Derived.Deep.RegionLaw
import Derived.Test.YtihhpgklpichgaaGreatMb
/- reachedFrom by a closure that writes memory of its own; the closure of body. -/
set_option linter.unusedSimpArgs false
set_option linter.unusedVariables false
namespace Go.Proofs.YtihhpgklpichgaaGreat.Wk
open Go.RowKit Pl Ft Mm In C2 Im Sw

def bodyL (code : List Int) (ms : List Nat) : List Int := (insOf code ms).map fun (p : Nat) => (p : Int)
theorem bodyL_no {code : List Int} {ms : List Nat} {p : Nat} (h : readP code p = none) : bodyL code (ms ++ [p]) = bodyL code ms := by
  unfold bodyL
  rw [insOf_push, h]
theorem bodyL_yes {code : List Int} {ms : List Nat} {p : Nat} {i : IIns} (h : readP code p = some i) : bodyL code (ms ++ [p]) = bodyL code ms ++ [(p : Int)] := by
  unfold bodyL
  rw [insOf_push, h]
  simp
theorem gm_no {code : List Int} {p : Nat} (h : readP code p = none) (c : Bool) : Gm code c p = [] := by unfold Gm; rw [h]
theorem gm_off {code : List Int} {p : Nat} {i : IIns} (h : readP code p = some i) : Gm code false p = nextsP code i (p + slong i) := by
  unfold Gm
  rw [h]
  simp
/-- What the closure stands on: the walk, its box, the list's box, and the list so far. -/
structure BdSt (code : List Int) (gl : Nat) (wS : World) (ms : List Nat) (T : Nat → Prop) (w : World) : Prop where
  ex : ∃ lv, T = (fun k => k < wS.heap.size ∨ lv.ownBlock = some k) ∧ Row w gl 22 #[lv] ∧ w.ownsRow wS.heap.size 3 1 lv (bodyL code ms).length (ints (bodyL code ms))
  only : Only (fun k => k = gl) wS w
  len : (bodyL code ms).length ≤ 100001
theorem BdSt.on {code : List Int} {gl : Nat} {wS : World} {ms : List Nat} {T z : Nat → Prop} {w w' : World} (h : BdSt code gl wS ms T w) (hgl : gl < wS.heap.size) (hz : ∀ k, z k → ¬ T k) (ho : Only z w w') : BdSt code gl wS ms T w' := by
  obtain ⟨lv, hT, hrow, hown⟩ := h.ex
  refine ⟨⟨lv, hT, row_only hrow (fun hk => hz _ hk (by rw [hT]; exact .inl hgl)) ho, own_only hown (fun k hk hk2 => hz _ hk2 (by rw [hT]; exact .inr hk)) ho⟩, only_mix h.only ho (fun k hk => ?_), h.len⟩
  rcases Nat.lt_or_ge k wS.heap.size with h1 | h1
  · exact absurd (by rw [hT]; exact .inl h1) (hz k hk)
  · exact .inr h1
theorem BdSt.lt {code : List Int} {gl : Nat} {wS : World} {ms : List Nat} {T : Nat → Prop} {w : World} (h : BdSt code gl wS ms T w) (k : Nat) (hk : T k) : k < w.heap.size := by
  obtain ⟨lv, hT, hrow, hown⟩ := h.ex
  rw [hT] at hk
  have := h.only.size
  rcases hk with h1 | h1
  · omega
  · exact (hown.lt k h1).2
theorem mt_stop (w : World) : (method 342 141 (.agg #[]) "loop.example/liftedcode/impl.ways").run Tryz.prog w = .ok (207, .agg #[]) w := by kernel_rfl
theorem mt_next (x : Int) (w : World) : (method 342 147 (.agg #[.int .i64 x]) "loop.example/liftedcode/impl.ways").run Tryz.prog w = .ok (151, .agg #[.int .i64 x]) w := by kernel_rfl
theorem mt_jump (x : Int) (w : World) : (method 342 143 (.agg #[.int .i64 x]) "loop.example/liftedcode/impl.ways").run Tryz.prog w = .ok (208, .agg #[.int .i64 x]) w := by kernel_rfl
theorem mt_if (x y : Int) (w : World) : (method 342 145 (.agg #[.int .i64 x, .int .i64 y]) "loop.example/liftedcode/impl.ways").run Tryz.prog w = .ok (209, .agg #[.int .i64 x, .int .i64 y]) w := by kernel_rfl
theorem mt_call (x y : Int) (w : World) : (method 342 149 (.agg #[.int .i64 x, .int .i64 y]) "loop.example/liftedcode/impl.ways").run Tryz.prog w = .ok (151, .agg #[.int .i64 x]) w := by kernel_rfl
theorem mt_table (v : Value) (b : Bool) (x : Int) (w : World) : (method 342 151 (.agg #[v, .bool b, .int .i64 x]) "loop.example/liftedcode/impl.ways").run Tryz.prog w = .ok (210, .agg #[v, .bool b, .int .i64 x]) w := by kernel_rfl
def BdPost (code : List Int) (gl : Nat) (wS : World) (ms : List Nat) (T : Nat → Prop) (p : Nat) (w : World) (e : Ending) (w' : World) : Prop :=
  ∃ v T' B', e = .returned v ∧ w.heap.size ≤ B' ∧ (∀ k, T' k → k < B') ∧ w'.ownsRow B' 3 1 v (Gm code false p).length (ints (Gm code false p)) ∧ BdSt code gl wS (ms ++ [p]) T' w' ∧ (∀ k, T' k → T k ∨ w.heap.size ≤ k) ∧ Only T w w'
theorem readIns_zero (w : World) (p : Nat) {b : Nat} {code : List Int} {ms : List Nat} (h : MapAt w b code ms) (hp : p ∉ ms) : (Instr.lookup 86 (.map (some b)) (.int .i64 p) true).run Tryz.prog w = .ok (.tuple #[.agg #[.int .i64 0, .int .i64 0, .int .i64 0, .int .i64 0, .int .i64 0], .bool false]) w := look_no h hp
set_option maxRecDepth 100000 in
set_option maxHeartbeats 8000000 in
theorem bodyFn_c (code : List Int) (ac : Option Addr) (cc : Nat) (lb : Value) (gw gm gp gl : Nat) (ms0 : List Nat) (w00 wS : World) (ms : List Nat) (T : Nat → Prop) (p : Nat) (w : World)
    (hr : Rd w00 (.slice ac code.length cc) code) (hcap : code.length ≤ cc) (hb00 : Below w00.heap.size w00 wS) (hgl0 : w00.heap.size ≤ gl) (hgl : gl < wS.heap.size) (hby : code.all isByte = true) (hlen : code.length ≤ 2000)
    (hw : Row wS gw 88 #[.slice ac code.length cc, .map (some gm), lb]) (hm : MapAt wS gm code ms0) (hp : Row wS gp 52 #[.pointer (some ⟨gw, 0, none⟩)]) (h1 : gw ≠ gl) (h2 : gm ≠ gl) (h3 : gp ≠ gl)
    (hin : p ∈ ms0 ↔ (readP code p).isSome = true) (hpN : p ≤ 100000) (hI : BdSt code gl wS ms T w) (hln : (bodyL code (ms ++ [p])).length ≤ 100001) :
    Calls Tryz.prog 99 #[.int .i64 p, .pointer (some ⟨gp, 0, none⟩), .pointer (some ⟨gl, 0, none⟩)] w (BdPost code gl wS ms T p w) := by
  obtain ⟨lv, rfl, hrow, hown⟩ := hI.ex
  have HI := hid hI
  have HRow := hid hrow
  have HOwn := hid hown
  have HLn := hid hln
  have hzS := hI.only.size
  have HW := hid (row_only hw h1 hI.only)
  have HM := hid (hm.only h2 hI.only)
  have HP := hid (row_only hp h3 hI.only)
  have HS0 := hid hb00.size
  have HBw := hid (hb00.trans (hI.only.below hb00.size (fun k hk => by rw [hk]; exact hgl0)))
  have HRd := hid (hr.on HBw.out)
  have HRS := hid hr
  have HB00 := hid hb00
  have HBy := hid hby
  have hbl := hI.len
  obtain ⟨ls, lc, rfl⟩ := own_slice hown
  have p0 := HP.out.cell 0
  have y0 := HW.out.cell 0
  have y1 := HW.out.cell 1
  have l0 := HRow.out.cell 0
  have lf := HRow.out.free
  simp at p0 y0 y1 l0
  clear hr hb00 hw hm hp hI hrow hown hby hln
  cases ho : readP code p with
  | none =>
    have hni : p ∉ ms0 := fun h => by have := hin.1 h; rw [ho] at this; cases this
    have hlk := readIns_zero w p HM.out hni
    have HG := hid (gm_no ho false)
    have HBn := hid (bodyL_no (ms := ms) ho)
    have HB1 := hid ((Below.refl w.heap.size w).alloc (Nat.le_refl _) (.cells #[.int .i64 0, .int .i64 0, .int .i64 0, .int .i64 0, .int .i64 0] 112))
    have HRd2 := hid ho
    clear ho hni hin
    go_enter Tryz.func99, Tryz.ntmps99
    go_wp2_with fail
    go_ret
    have ho1 := Only.of_below (p := fun k => False) HB1.out
    refine ⟨_, _, w.heap.size, rfl, Nat.le_refl _, fun k hk => HI.out.lt k hk, by rw [HG.out]; exact World.ownsRow_nil _ _ _ _, ?_, fun k hk => .inl hk, ho1.mono (fun k h => h.elim)⟩
    have h := HI.out.on hgl (z := fun k => False) (fun k h => h.elim) ho1
    exact ⟨by rw [HBn.out]; exact h.ex, h.only, by rw [HBn.out]; exact h.len⟩
  | some i =>
    have hmi : p ∈ ms0 := hin.2 (by rw [ho]; rfl)
    have hlk := look_yes HM.out hmi
    have hrdo : rdOf code p = rdArr i (p + slong i) := by unfold rdOf nextP; rw [ho]; rfl
    have hf := readP_facts ho
    have HV := hid hf.2.1
    have HTl := hid (show i.op = 30 → ((tabP code i).getD []).length ≤ 1000000 from fun h30 => by have := tab_len (code := code) (valid_b hf.2.1 h30); omega)
    have HG := hid (gm_off ho)
    have HBn := hid (bodyL_yes (ms := ms) ho)
    rw [hrdo] at hlk
    unfold rdArr at hlk
    obtain ⟨op, ia, ib, n⟩ := i
    obtain ⟨x, hx⟩ : ∃ x, (p : Int) + slong ⟨op, ia, ib, n⟩ = x := ⟨_, rfl⟩
    rw [hx] at hlk HG
    simp only at hlk
    obtain ⟨bl, hbL⟩ : ∃ l, bodyL code ms = l := ⟨_, rfl⟩
    rw [hbL] at hbl HOwn HBn l0 HRow
    have HBl := hid hbL
    obtain ⟨w1, hw1, hr1, hb1, hz1⟩ := new_ex w 112 #[.int .i64 op, .int .i64 ia, .int .i64 ib, .int .i64 n, .int .i64 x]
    have HX1 := hid hr1
    have HB1 := hid hb1
    have HOw1 := hid (own_on HOwn.out hb1)
    have HRow1 := hid (HRow.out.on hb1)
    have HP1 := hid (HP.out.on hb1)
    have HW1 := hid (HW.out.on hb1)
    have hglw := HRow.out.lt
    have hrS := HRS.out
    clear ho hmi hin hrdo hf hx hbL hr1 hb1
    go_enter Tryz.func99, Tryz.ntmps99
    go_upto_region 4 with fail
    clear hw1 hlk p0 y0 y1 l0 lf
    have l0 := HRow1.out.cell 0
    simp at l0
    obtain ⟨gx, hgx⟩ : ∃ g, w.heap.size = g := ⟨_, rfl⟩
    rw [hgx] at HX1
    try rw [hgx]
    have HGx := hid hgx
    have hzz : wS.heap.size ≤ gx := by omega
    have hgx1 : gx < w1.heap.size := HX1.out.lt
    have hgw1 := HW1.out.lt
    have hgp1 := HP1.out.lt
    clear hgx
    go_upto_region 5 with (at_builtin; refine app_ints _ rfl _ _ rfl wS.heap.size bl [(p : Int)] _ rfl (HOw1.out.alloc _) _ _ _ rfl rfl (SrcAt.at_ _ [(p : Int)] #[.int .i64 p] _ 1 rfl (by simp) rfl) (by simp; omega) (by simp; omega) ?_; intro v2 w2 hg2; have HO2 := hid hg2.own; have HG2 := hid hg2; have hba := (Below.refl w1.heap.size w1).alloc (Nat.le_refl _) (.cells #[.int .i64 p] 3); have HRow2 := hid (hg2.row (HRow1.out.on hba) (no_own (HRow1.out.on hba) (HOw1.out.alloc (.cells #[.int .i64 p] 3)) (by decide))); have HX2 := hid (hg2.row (HX1.out.on hba) (no_own (HX1.out.on hba) (HOw1.out.alloc (.cells #[.int .i64 p] 3)) (by decide))); have HP2 := hid (hg2.row (HP1.out.on hba) (no_own (HP1.out.on hba) (HOw1.out.alloc (.cells #[.int .i64 p] 3)) (by decide))); have HW2 := hid (hg2.row (HW1.out.on hba) (no_own (HW1.out.on hba) (HOw1.out.alloc (.cells #[.int .i64 p] 3)) (by decide))); have hown2 := hg2.own; obtain ⟨b2, hb2⟩ : ∃ b, bl ++ [(p : Int)] = b := ⟨_, rfl⟩; rw [hb2] at hown2; have HB2 := hid hb2; have HOb := hid hown2; obtain ⟨s2, c2, rfl⟩ := own_slice hown2; have l2 := HRow2.out.free; have l3 := HRow2.out.cell 0; simp at l3; clear hg2 hba hown2 hb2)
    have hb2l : b2.length = bl.length + 1 := by rw [← HB2.out]; simp
    have HB2l := hid hb2l
    have HRow3 := hid (HRow2.out.set 0 (.slice s2 b2.length c2))
    have HX3 := hid (HX2.out.far (p := ⟨gl, 0, none⟩) (by simp only; omega) (.slice s2 b2.length c2))
    have HP3 := hid (HP2.out.far (p := ⟨gl, 0, none⟩) h3 (.slice s2 b2.length c2))
    have HW3 := hid (HW2.out.far (p := ⟨gl, 0, none⟩) h1 (.slice s2 b2.length c2))
    have HO3 := hid (own_far HOb.out (p := ⟨gl, 0, none⟩) (fun g hg => by have := (HOb.out.lt g hg).1; simp only; omega) (.slice s2 b2.length c2))
    have hoA : Only (fun k => k = gl ∨ (Value.slice ls bl.length lc).ownBlock = some k) w w2 :=
      (Only.of_below HB1.out).trans ((Only.of_below ((Below.refl w1.heap.size w1).alloc (Nat.le_refl _) (.cells #[.int .i64 p] 3))).trans ((grows_only HG2.out).mono (fun k hk => .inr hk)))
    have hoB := hoA.setCell (g := gl) (.inl rfl) 0 (.slice s2 b2.length c2)
    have HOnT := hid (hoB.mono (q := fun k => k < wS.heap.size ∨ (Value.slice ls bl.length lc).ownBlock = some k) (fun k hk => by rcases hk with rfl | h; exact .inl hgl; exact .inr h))
    have HOnS := hid (only_mix HI.out.only hoB (fun k hk => by
      rcases hk with h | h
      · exact .inl h
      · exact .inr (HOwn.out.lt k h).1))
    have HTs := hid (show ∀ k, (k < wS.heap.size ∨ (Value.slice s2 b2.length c2).ownBlock = some k) → (k < wS.heap.size ∨ (Value.slice ls bl.length lc).ownBlock = some k) ∨ w.heap.size ≤ k from fun k hk => by
      rcases hk with h | h
      · exact .inl (.inl h)
      · rcases HG2.out.at_ with h4 | ⟨g', h4, h5⟩
        · have h7 : (Value.slice s2 b2.length c2).ownBlock = (Value.slice ls bl.length lc).ownBlock := by cases s2 <;> exact h4
          exact .inl (.inr (h7.symm.trans h))
        · have h7 : (Value.slice s2 b2.length c2).ownBlock = some g' := by cases s2 <;> exact h4
          have h6 : some g' = some k := h7.symm.trans h
          cases h6
          simp only [World.size_alloc] at h5
          exact .inr (by omega))
    have HSt := hid (show BdSt code gl wS (ms ++ [p]) (fun k => k < wS.heap.size ∨ (Value.slice s2 b2.length c2).ownBlock = some k) (w2.setCell ⟨gl, 0, none⟩ (.slice s2 b2.length c2)) from ⟨⟨_, rfl, HRow3.out, by rw [HBn.out, HB2.out]; exact HO3.out⟩, HOnS.out, HLn.out⟩)
    have hz3 : wS.heap.size ≤ (w2.setCell ⟨gl, 0, none⟩ (.slice s2 b2.length c2)).heap.size := HOnS.out.size
    have hzw := HOnT.out.size
    have HRd3 := hid (Rd.on hrS (HB00.out.trans (HOnS.out.below (B := w00.heap.size) HS0.out (fun k hk => by rw [hk]; exact hgl0))))
    clear l0 l2 l3 hoA hoB
    generalize w2.setCell ⟨gl, 0, none⟩ (.slice s2 b2.length c2) = w3 at HRow3 HX3 HP3 HW3 HO3 HOnT HOnS HSt hz3 hzw HRd3 ⊢
    have x0 := HX3.out.cell 0
    have x1 := HX3.out.cell 1
    have x2 := HX3.out.cell 2
    have x3 := HX3.out.cell 3
    have x4 := HX3.out.cell 4
    have y0 := HW3.out.cell 0
    have p0 := HP3.out.cell 0
    simp at x0 x1 x2 x3 x4 y0 p0
    by_cases h0 : op = 0 ∨ op = 1
    · have HEx := hid (show ∀ tv, exVal ⟨op, ia, ib, n⟩ x tv (tabP code ⟨op, ia, ib, n⟩).isSome = .iface 141 (.agg #[]) from fun tv => by unfold exVal; rw [if_pos h0])
      have HNx := hid (show nextsP code ⟨op, ia, ib, n⟩ x = [] by unfold nextsP; rw [if_pos h0])
      have hmt := mt_stop
      clear h0
      go_region_law (first
        | (go_simp; go_at_call 100; refine (exitOf_c code _ ⟨op, ia, ib, n⟩ x w3.drew (Rd.on HRd3.out ((Below.refl _ _).drew)) (fun a k c h => by cases h; exact hcap) HBy.out hlen HV.out).mono ?_; rintro e w4 ⟨tv, rfl, hown4, hb4⟩; rw [HEx.out tv]; have HO4 := hid hown4; have HB4 := hid hb4; clear hown4 hb4)
        | (go_simp; go_at_call 207; refine (stopWays_c _).mono ?_; rintro e w5 ⟨v5, rfl, hown5, hb5⟩; have HO5 := hid hown5; have HB5 := hid hb5; obtain ⟨s5, c5, rfl⟩ := own_slice hown5; clear hown5 hb5))
      all_goals
        go_wp2_with fail
        go_ret
        have hb35 := (Below.refl w3.heap.size w3).drew.trans (HB4.out.trans (HB5.out.mono HB4.out.size))
        have hb34 := HB4.out.size
        refine ⟨_, _, w4.heap.size, rfl, by simp only [World.drew] at hb34; omega, fun k hk => by have := HSt.out.lt k hk; simp only [World.drew] at hb34; omega, ?_, HSt.out.on hgl (z := fun k => False) (fun k h => h.elim) (Only.of_below hb35), by rw [HBl.out]; exact HTs.out, by rw [HBl.out]; exact HOnT.out.trans (.of_below hb35)⟩
        rw [HG.out, HNx.out]
        exact HO5.out
    by_cases h27 : op = 27
    · have HEx := hid (show ∀ tv, exVal ⟨op, ia, ib, n⟩ x tv (tabP code ⟨op, ia, ib, n⟩).isSome = .iface 143 (.agg #[.int .i64 n]) from fun tv => by unfold exVal; rw [if_neg h0, if_pos h27])
      have HNx := hid (show nextsP code ⟨op, ia, ib, n⟩ x = [n] by unfold nextsP; rw [if_neg h0, if_pos h27])
      have hmt := mt_jump n
      clear h0 h27
      go_region_law (first
        | (go_simp; go_at_call 100; refine (exitOf_c code _ ⟨op, ia, ib, n⟩ x w3.drew (Rd.on HRd3.out ((Below.refl _ _).drew)) (fun a k c h => by cases h; exact hcap) HBy.out hlen HV.out).mono ?_; rintro e w4 ⟨tv, rfl, hown4, hb4⟩; rw [HEx.out tv]; have HO4 := hid hown4; have HB4 := hid hb4; clear hown4 hb4)
        | (go_simp; go_at_call 208; refine (jumpWays_c n _).mono ?_; rintro e w5 ⟨v5, rfl, hown5, hb5⟩; have HO5 := hid hown5; have HB5 := hid hb5; obtain ⟨s5, c5, rfl⟩ := own_slice hown5; clear hown5 hb5))
      all_goals
        go_wp2_with fail
        go_ret
        have hb35 := (Below.refl w3.heap.size w3).drew.trans (HB4.out.trans (HB5.out.mono HB4.out.size))
        have hb34 := HB4.out.size
        refine ⟨_, _, w4.heap.size, rfl, by simp only [World.drew] at hb34; omega, fun k hk => by have := HSt.out.lt k hk; simp only [World.drew] at hb34; omega, ?_, HSt.out.on hgl (z := fun k => False) (fun k h => h.elim) (Only.of_below hb35), by rw [HBl.out]; exact HTs.out, by rw [HBl.out]; exact HOnT.out.trans (.of_below hb35)⟩
        rw [HG.out, HNx.out]
        exact HO5.out
    by_cases h28 : op = 28
    · have HEx := hid (show ∀ tv, exVal ⟨op, ia, ib, n⟩ x tv (tabP code ⟨op, ia, ib, n⟩).isSome = .iface 145 (.agg #[.int .i64 n, .int .i64 x]) from fun tv => by unfold exVal; rw [if_neg h0, if_neg h27, if_pos h28])
      have HNx := hid (show nextsP code ⟨op, ia, ib, n⟩ x = [n] ++ [x] by unfold nextsP; rw [if_neg h0, if_neg h27, if_pos h28])
      have hmt := mt_if n x
      clear h0 h27 h28
      go_region_law (first
        | (go_simp; go_at_call 100; refine (exitOf_c code _ ⟨op, ia, ib, n⟩ x w3.drew (Rd.on HRd3.out ((Below.refl _ _).drew)) (fun a k c h => by cases h; exact hcap) HBy.out hlen HV.out).mono ?_; rintro e w4 ⟨tv, rfl, hown4, hb4⟩; rw [HEx.out tv]; have HO4 := hid hown4; have HB4 := hid hb4; clear hown4 hb4)
        | (go_simp; go_at_call 209; refine (ifWays_c n x _).mono ?_; rintro e w5 ⟨v5, rfl, hown5, hb5⟩; have HO5 := hid hown5; have HB5 := hid hb5; obtain ⟨s5, c5, rfl⟩ := own_slice hown5; clear hown5 hb5))
      all_goals
        go_wp2_with fail
        go_ret
        have hb35 := (Below.refl w3.heap.size w3).drew.trans (HB4.out.trans (HB5.out.mono HB4.out.size))
        have hb34 := HB4.out.size
        refine ⟨_, _, w4.heap.size, rfl, by simp only [World.drew] at hb34; omega, fun k hk => by have := HSt.out.lt k hk; simp only [World.drew] at hb34; omega, ?_, HSt.out.on hgl (z := fun k => False) (fun k h => h.elim) (Only.of_below hb35), by rw [HBl.out]; exact HTs.out, by rw [HBl.out]; exact HOnT.out.trans (.of_below hb35)⟩
        rw [HG.out, HNx.out]
        exact HO5.out
    by_cases h29 : op = 29
    · have HEx := hid (show ∀ tv, exVal ⟨op, ia, ib, n⟩ x tv (tabP code ⟨op, ia, ib, n⟩).isSome = .iface 149 (.agg #[.int .i64 x, .int .i64 n]) from fun tv => by unfold exVal; rw [if_neg h0, if_neg h27, if_neg h28, if_pos h29])
      have HNx := hid (show nextsP code ⟨op, ia, ib, n⟩ x = [] ++ [x] by unfold nextsP; rw [if_neg h0, if_neg h27, if_neg h28, if_neg (show ¬ op = 30 by omega)])
      have hmt := mt_call x n
      clear h0 h27 h28 h29
      go_region_law (first
        | (go_simp; go_at_call 100; refine (exitOf_c code _ ⟨op, ia, ib, n⟩ x w3.drew (Rd.on HRd3.out ((Below.refl _ _).drew)) (fun a k c h => by cases h; exact hcap) HBy.out hlen HV.out).mono ?_; rintro e w4 ⟨tv, rfl, hown4, hb4⟩; rw [HEx.out tv]; have HO4 := hid hown4; have HB4 := hid hb4; clear hown4 hb4)
        | (go_simp; go_at_call 151; refine (nextWays_c x _).mono ?_; rintro e w5 ⟨v5, rfl, hown5, hb5⟩; have HO5 := hid hown5; have HB5 := hid hb5; obtain ⟨s5, c5, rfl⟩ := own_slice hown5; clear hown5 hb5))
      all_goals
        go_wp2_with fail
        go_ret
        have hb35 := (Below.refl w3.heap.size w3).drew.trans (HB4.out.trans (HB5.out.mono HB4.out.size))
        have hb34 := HB4.out.size
        refine ⟨_, _, w4.heap.size, rfl, by simp only [World.drew] at hb34; omega, fun k hk => by have := HSt.out.lt k hk; simp only [World.drew] at hb34; omega, ?_, HSt.out.on hgl (z := fun k => False) (fun k h => h.elim) (Only.of_below hb35), by rw [HBl.out]; exact HTs.out, by rw [HBl.out]; exact HOnT.out.trans (.of_below hb35)⟩
        rw [HG.out, HNx.out]
        exact HO5.out
    by_cases h30 : op = 30
    · have HEx := hid (show ∀ tv, exVal ⟨op, ia, ib, n⟩ x tv (tabP code ⟨op, ia, ib, n⟩).isSome = .iface 151 (.agg #[tv, .bool (tabP code ⟨op, ia, ib, n⟩).isSome, .int .i64 x]) from fun tv => by unfold exVal; rw [if_neg h0, if_neg h27, if_neg h28, if_neg h29, if_pos h30])
      have HNx := hid (show nextsP code ⟨op, ia, ib, n⟩ x = (tabP code ⟨op, ia, ib, n⟩).getD [] ++ [x] by unfold nextsP; rw [if_neg h0, if_neg h27, if_neg h28, if_pos h30])
      have hmt := fun tv b => mt_table tv b x
      have H30 := hid h30
      clear h0 h27 h28 h29 h30
      go_region_law (first
        | (go_simp; go_at_call 100; refine (exitOf_c code _ ⟨op, ia, ib, n⟩ x w3.drew (Rd.on HRd3.out ((Below.refl _ _).drew)) (fun a k c h => by cases h; exact hcap) HBy.out hlen HV.out).mono ?_; rintro e w4 ⟨tv, rfl, hown4, hb4⟩; rw [HEx.out tv]; have HO4 := hid hown4; have HB4 := hid hb4; clear hown4 hb4)
        | (go_simp; go_at_call 210; refine (tableWays_c ((tabP code ⟨op, ia, ib, n⟩).getD []) w3.drew.heap.size _ _ x w4 (HO4.out H30.out) (HTl.out H30.out)).mono ?_; rintro e w5 ⟨v5, rfl, hown5, hb5⟩; obtain ⟨ys, hys⟩ : ∃ ys, (tabP code ⟨op, ia, ib, n⟩).getD [] ++ [x] = ys := ⟨_, rfl⟩; rw [hys] at hown5; have HYs := hid hys; clear hys; have HO5 := hid hown5; have HB5 := hid hb5; obtain ⟨s5, c5, rfl⟩ := own_slice hown5; clear hown5 hb5))
      all_goals
        go_wp2_with fail
        go_ret
        have hb35 := (Below.refl w3.heap.size w3).drew.trans (HB4.out.trans (HB5.out.mono HB4.out.size))
        have hb34 := HB4.out.size
        refine ⟨_, _, w4.heap.size, rfl, by simp only [World.drew] at hb34; omega, fun k hk => by have := HSt.out.lt k hk; simp only [World.drew] at hb34; omega, ?_, HSt.out.on hgl (z := fun k => False) (fun k h => h.elim) (Only.of_below hb35), by rw [HBl.out]; exact HTs.out, by rw [HBl.out]; exact HOnT.out.trans (.of_below hb35)⟩
        rw [HG.out, HNx.out, HYs.out]
        exact HO5.out
    have HEx := hid (show ∀ tv, exVal ⟨op, ia, ib, n⟩ x tv (tabP code ⟨op, ia, ib, n⟩).isSome = .iface 147 (.agg #[.int .i64 x]) from fun tv => by unfold exVal; rw [if_neg h0, if_neg h27, if_neg h28, if_neg h29, if_neg h30])
    have HNx := hid (show nextsP code ⟨op, ia, ib, n⟩ x = [] ++ [x] by unfold nextsP; rw [if_neg h0, if_neg h27, if_neg h28, if_neg h30])
    have hmt := mt_next x
    clear h0 h27 h28 h29 h30
    go_region_law (first
      | (go_simp; go_at_call 100; refine (exitOf_c code _ ⟨op, ia, ib, n⟩ x w3.drew (Rd.on HRd3.out ((Below.refl _ _).drew)) (fun a k c h => by cases h; exact hcap) HBy.out hlen HV.out).mono ?_; rintro e w4 ⟨tv, rfl, hown4, hb4⟩; rw [HEx.out tv]; have HO4 := hid hown4; have HB4 := hid hb4; clear hown4 hb4)
      | (go_simp; go_at_call 151; refine (nextWays_c x _).mono ?_; rintro e w5 ⟨v5, rfl, hown5, hb5⟩; have HO5 := hid hown5; have HB5 := hid hb5; obtain ⟨s5, c5, rfl⟩ := own_slice hown5; clear hown5 hb5))
    all_goals
      go_wp2_with fail
      go_ret
      have hb35 := (Below.refl w3.heap.size w3).drew.trans (HB4.out.trans (HB5.out.mono HB4.out.size))
      have hb34 := HB4.out.size
      refine ⟨_, _, w4.heap.size, rfl, by simp only [World.drew] at hb34; omega, fun k hk => by have := HSt.out.lt k hk; simp only [World.drew] at hb34; omega, ?_, HSt.out.on hgl (z := fun k => False) (fun k h => h.elim) (Only.of_below hb35), by rw [HBl.out]; exact HTs.out, by rw [HBl.out]; exact HOnT.out.trans (.of_below hb35)⟩
      rw [HG.out, HNx.out]
      exact HO5.out
end Go.Proofs.YtihhpgklpichgaaGreat.Wk
/- The functions of an image: funsIn, FunsOf and calledIn of the program and of the model. -/
namespace Go.Proofs.YtihhpgklpichgaaGreat.Wk
open Go.RowKit Pl Ft Mm In C2 Im Sw

/-- What reachL tells besides the Entry. -/
noncomputable def othersL (m : Img) : List Int := (calledL m.code (reachL m.code [m.entry] true)).filter fun x => !decide (x = m.entry)
noncomputable def funsL (m : Img) : List Int := m.entry :: othersL m
theorem othersL_len (m : Img) : (othersL m).length ≤ m.code.length := Nat.le_trans (List.length_filter_le _ _) (calledL_len _ _)
theorem isEntry_c (e : Int) (vc vd vn : Value) (room : Int) (g : Nat) (x : Int) (w : World) (h : Row w g 30 #[vc, .int .i64 e, .int .i64 room, vd, vn]) :
    Calls Tryz.prog 96 #[.int .i64 x, .pointer (some ⟨g, 0, none⟩)] w fun en w' => en = .returned (.bool (decide (x = e))) ∧ w' = w := by
  have x1 := h.cell 1
  simp at x1
  have hb : (x == e) = decide (x = e) := by by_cases hx : x = e <;> simp [hx]
  have HB := hid hb
  clear h hb
  go_enter Tryz.func96, Tryz.ntmps96
  go_wp2_with fail
  go_ret
  first
    | exact ⟨rfl, rfl⟩
    | exact ⟨congrArg (fun b => Ending.returned (.bool b)) HB.out, rfl⟩
theorem res_cell_tmp {fn : Func} {p r : Tmp} {t : TypeId} (h : fn.results = #[.cell p t, .tmp r]) (tmps : Array Value) (w : World) (g : Nat) (cs : Array Value) (fs : Array Field)
    (hp : tmps.getD p undef = .pointer (some ⟨g, 0, none⟩)) (h1 : Row w g t cs) (hu : Tryz.prog.underlying t = some (.struct fs)) (hi : (Tryz.prog.info? t).map (·.size) = some cs.size) :
    (results fn tmps).run Tryz.prog w = .ok (.tuple #[.agg cs, tmps.getD r undef]) w := by
  have hp' : tmps[p]?.getD undef = .pointer (some ⟨g, 0, none⟩) := by simpa using hp
  simp [results, h, hp', asAddr, run_loadVar_row w g t t cs (0, 0) _ h1 hu rfl hi]
theorem size_funs : (Tryz.prog.info? 59).map (·.size) = some 2 := by kernel_rfl
/-- What funsIn answers for an image. -/
def FinPost (m : Img) (vc : Value) (w : World) (e : Ending) (w' : World) : Prop :=
  ∃ (gw gm : Nat) (ms : List Nat) (vl : Value), e = .returned (.tuple #[.agg #[.pointer (some ⟨gw, 0, none⟩), vl], .bool true]) ∧ Row w' gw 88 #[vc, .map (some gm), .bool (lostIn m.code ms)] ∧ MapAt w' gm m.code (insOf m.code ms) ∧ (∀ p, p ∈ ms ↔ Rc (Gw m.code) [m.entry] p) ∧ ms.Nodup ∧
    w'.ownsRow w.heap.size 3 1 vl (funsL m).length (ints (funsL m)) ∧ Below w.heap.size w w' ∧ w.heap.size ≤ gw ∧ w.heap.size ≤ gm
set_option maxRecDepth 100000 in
set_option maxHeartbeats 2000000 in
theorem funsIn_no (m : Img) (vc vd vn : Value) (w : World) (h : ICells w vc vd vn m) (hs : Sm m) (h1 : imageOk m = false) :
    Calls Tryz.prog 54 #[imgVal vc vd vn m] w fun e w' => e = .returned (.tuple #[.agg #[.pointer none, .slice none 0 0], .bool false]) ∧ Below w.heap.size w w' := by
  obtain ⟨ac, cc, rfl⟩ := rd_slice h.c
  obtain ⟨ad, cd, rfl⟩ := rd_slice h.d
  obtain ⟨an, cn, rfl⟩ := nrd_slice h.n
  have HI := hid h
  have HS := hid hs
  have H1 := hid h1
  clear h hs h1
  have hV : imgVal (.slice ac m.code.length cc) (.slice ad m.data.length cd) (.slice an m.names.length cn) m = .agg #[.slice ac m.code.length cc, .int .i64 m.entry, .int .i64 m.room, .slice ad m.data.length cd, .slice an m.names.length cn] := rfl
  have HV := hid hV
  rw [hV]
  clear hV
  obtain ⟨w0, hw0, hr0, hb0, hz0⟩ := new_ex w 30 #[.slice ac m.code.length cc, .int .i64 m.entry, .int .i64 m.room, .slice ad m.data.length cd, .slice an m.names.length cn]
  obtain ⟨w1, hw1, hr1, hb1, hz1⟩ := new_ex w0 59 #[.pointer none, .slice none 0 0]
  have HB1 := hid (hb0.trans (hb1.mono (Nat.le_of_lt hz0)))
  have HX1 := hid (hr0.on hb1)
  have HR1 := hid hr1
  have x0 := HX1.out.cell 0
  have x1 := HX1.out.cell 1
  have x2 := HX1.out.cell 2
  have x3 := HX1.out.cell 3
  have x4 := HX1.out.cell 4
  simp at x0 x1 x2 x3 x4
  clear hr0 hb0 hr1 hb1
  go_enter Tryz.func54, Tryz.ntmps54
  go_wp2_with fail
  clear hw0 hw1 x0 x1 x2 x3 x4
  rw [← HV.out]
  refine (walkOf_no m _ _ _ w1 (HI.out.on HB1.out) HS.out H1.out).mono ?_
  rintro e w2 ⟨rfl, hb2⟩
  have HB2 := hid (HB1.out.trans (hb2.mono HB1.out.size))
  have HR2 := hid (HR1.out.on hb2)
  clear hb2
  have z0 := HR2.out.cell 0
  have z1 := HR2.out.cell 1
  have hf := HR2.out.free
  simp at z0 z1
  go_wp2_with fail
  clear z0 z1 hf
  refine bodyPost_ret (v := .tuple #[.agg #[.pointer none, .slice none 0 0], .bool false]) ?_ rfl ?_
  · exact res_cell_tmp Tryz.results54 _ _ w0.heap.size #[.pointer none, .slice none 0 0] _ rfl ((HR2.out.set 0 (.pointer none)).set 1 (.slice none 0 0)) Tryz.underlying59 size_funs
  exact ⟨rfl, (HB2.out.setCell (p := ⟨w0.heap.size, 0, none⟩) (by simp only; omega) _).setCell (p := ⟨w0.heap.size, 1, none⟩) (by simp only; omega) _⟩
set_option maxRecDepth 100000 in
set_option maxHeartbeats 4000000 in
theorem funsIn_yes (m : Img) (vc vd vn : Value) (w : World) (h : ICells w vc vd vn m) (hs : Sm m) (hcc : ∀ a n c, vc = .slice a n c → n ≤ c) (h1 : imageOk m = true) :
    Calls Tryz.prog 54 #[imgVal vc vd vn m] w (FinPost m vc w) := by
  obtain ⟨ac, cc, rfl⟩ := rd_slice h.c
  obtain ⟨ad, cd, rfl⟩ := rd_slice h.d
  obtain ⟨an, cn, rfl⟩ := nrd_slice h.n
  have HI := hid h
  have HS := hid hs
  have HCap := hid hcc
  have H1 := hid h1
  have HBd := hid (imageOk_bd h1)
  have hl2 := HBd.out.c1
  clear h hs hcc h1
  have hV : imgVal (.slice ac m.code.length cc) (.slice ad m.data.length cd) (.slice an m.names.length cn) m = .agg #[.slice ac m.code.length cc, .int .i64 m.entry, .int .i64 m.room, .slice ad m.data.length cd, .slice an m.names.length cn] := rfl
  have HV := hid hV
  rw [hV]
  clear hV
  obtain ⟨w0, hw0, hr0, hb0, hz0⟩ := new_ex w 30 #[.slice ac m.code.length cc, .int .i64 m.entry, .int .i64 m.room, .slice ad m.data.length cd, .slice an m.names.length cn]
  obtain ⟨w1, hw1, hr1, hb1, hz1⟩ := new_ex w0 59 #[.pointer none, .slice none 0 0]
  have HB1 := hid (hb0.trans (hb1.mono (Nat.le_of_lt hz0)))
  have HX1 := hid (hr0.on hb1)
  have HR1 := hid hr1
  have x0 := HX1.out.cell 0
  have x1 := HX1.out.cell 1
  have x2 := HX1.out.cell 2
  have x3 := HX1.out.cell 3
  have x4 := HX1.out.cell 4
  simp at x0 x1 x2 x3 x4
  clear hr0 hb0 hr1 hb1
  go_enter Tryz.func54, Tryz.ntmps54
  go_wp2_with fail
  clear hw0 hw1 x0 x1 x2 x3 x4
  obtain ⟨g0, hg0⟩ : ∃ g, w.heap.size = g := ⟨_, rfl⟩
  obtain ⟨g1, hg1⟩ : ∃ g, w0.heap.size = g := ⟨_, rfl⟩
  have HG := hid (show g0 = w.heap.size ∧ w.heap.size < g1 ∧ g1 < w1.heap.size by omega)
  rw [hg0] at HX1
  rw [hg1] at HR1
  try rw [hg0]
  try rw [hg1]
  clear hg0 hg1 hz0 hz1
  rw [← HV.out]
  refine (walkOf_yes m _ _ _ w1 (HI.out.on HB1.out) HS.out HCap.out H1.out).mono ?_
  rintro e w2 ⟨gw, gm, ms, rfl, hrow, hmap, hmem, hnd, hb2, hgw, hgm⟩
  have HB2 := hid (HB1.out.trans (hb2.mono HB1.out.size))
  have HX2 := hid (HX1.out.on hb2)
  have HR2 := hid (HR1.out.on hb2)
  have HRow := hid hrow
  have HMap := hid hmap
  have HMem := hid hmem
  have HNd := hid hnd
  have HGw := hid (show w.heap.size ≤ gw ∧ w.heap.size ≤ gm by have := HB1.out.size; omega)
  have hz2 := HB2.out.size
  clear hb2 hrow hmap hmem hnd hgw hgm
  go_wp2_with fail
  refine (places_c m.code _ _ gw gm (insOf m.code ms) m.code.length w2 HRow.out HMap.out (HNd.out.filter _) insOf_lt hl2).mono ?_
  rintro e w3 ⟨v3, rfl, hown3, hb3⟩
  rw [trues_reach (gw_gm HMem.out)] at hown3
  obtain ⟨pl, hpl⟩ : ∃ pl, reachL m.code [m.entry] true = pl := ⟨_, rfl⟩
  have hpb : ∀ x ∈ pl, ∃ p : Nat, x = p ∧ p ∈ insOf m.code ms := by
    rw [← hpl, ← trues_reach (gw_gm HMem.out)]
    intro x hx
    obtain ⟨q, hq, rfl⟩ := List.mem_map.1 hx
    exact ⟨q, rfl, of_decide_eq_true (List.mem_filter.1 hq).2⟩
  have hpll : pl.length ≤ m.code.length := by rw [← hpl]; exact reachL_len _ _ _
  rw [hpl] at hown3
  have HPl := hid hpl
  have HPb := hid hpb
  have HO3 := hid hown3
  have HB3 := hid (HB2.out.trans (hb3.mono hz2))
  have HX3 := hid (HX2.out.on hb3)
  have HR3 := hid (HR2.out.on hb3)
  have HRow3 := hid (HRow.out.on hb3)
  have HMap3 := hid (HMap.out.on hb3)
  have hz3 := HB3.out.size
  obtain ⟨s3, c3, rfl⟩ := own_slice hown3
  clear hown3 hb3 hpl hpb
  go_wp2_with fail
  refine (calledAt_c m.code ac cc _ gw gm (insOf m.code ms) pl _ w3 HRow3.out HMap3.out (.of_own HO3.out) HPb.out (fun p hp => (mem_insOf.1 hp).2) (by omega)).mono ?_
  rintro e w4 ⟨v4, rfl, hown4, hb4⟩
  have HO4 := hid hown4
  have HB4 := hid (HB3.out.trans (hb4.mono hz3))
  have HX4 := hid (HX3.out.on hb4)
  have HR4 := hid (HR3.out.on hb4)
  have HRow4 := hid (HRow3.out.on hb4)
  have HMap4 := hid (HMap3.out.on hb4)
  have hz4 := HB4.out.size
  have hcl := calledL_len m.code pl
  obtain ⟨ol, hol⟩ : ∃ ol, calledL m.code pl = ol := ⟨_, rfl⟩
  rw [hol] at HO4 hcl
  have HOl := hid hol
  have h34 := hb4.size
  obtain ⟨s4, c4, rfl⟩ := own_slice HO4.out
  clear hown4 hb4 hol
  go_wp2_with fail
  refine (del_c w3.heap.size ol (fun x => decide (x = m.entry)) _ #[.pointer (some ⟨g0, 0, none⟩)] _ w4 HO4.out (by omega) (enters_of Tryz.func96 (by kernel_rfl) rfl) (fun W x hb => isEntry_c m.entry _ _ _ m.room g0 x W (HX4.out.below hb (by have := HX3.out.lt; omega)))).mono ?_
  rintro e w5 ⟨v5, rfl, hown5, ho5⟩
  obtain ⟨fl, hfl⟩ : ∃ fl, (ol.filter fun x => !decide (x = m.entry)) = fl := ⟨_, rfl⟩
  have hfll : fl.length ≤ m.code.length := by rw [← hfl]; exact Nat.le_trans (List.length_filter_le _ _) hcl
  rw [hfl] at hown5
  have HFl := hid (show othersL m = fl by unfold othersL; rw [HPl.out, HOl.out]; exact hfl)
  have HO5 := hid hown5
  have HFar := hid (fun k (hk : (Value.slice s4 ol.length c4).ownBlock = some k) => show w3.heap.size ≤ k from (HO4.out.lt k hk).1)
  have HB5 := hid (HB4.out.trans (ho5.below hz4 (fun k hk => by have := HFar.out k hk; omega)))
  have hb45 := ho5.below (B := w3.heap.size) h34 HFar.out
  have HX5 := hid (HX4.out.below hb45 HX3.out.lt)
  have HR5 := hid (HR4.out.below hb45 HR3.out.lt)
  have HRow5 := hid (HRow4.out.below hb45 HRow3.out.lt)
  have HMap5 := hid (show MapAt w5 gm m.code (insOf m.code ms) from (hb45.block gm HMap3.out.lt).trans HMap4.out)
  have hz5 := HB5.out.size
  obtain ⟨s5, c5, rfl⟩ := own_slice hown5
  have HSrc := hid (SrcAt.of_rd (Rd.of_own hown5))
  clear hown5 ho5 hfl hb45
  have x1 := HX5.out.cell 1
  simp at x1
  have HL := hid (own_lit w5 [m.entry] #[.int .i64 m.entry] rfl (by simp) 1 rfl)
  have HB6 := hid ((Below.refl w5.heap.size w5).alloc (Nat.le_refl _) (.cells #[.int .i64 m.entry] 3))
  have HS6 := hid (HSrc.out.on (fun p hp => HB6.out.cell hp))
  have hz6 : (w5.alloc (.cells #[.int .i64 m.entry] 3)).heap.size = w5.heap.size + 1 := by simp
  have HR6 := hid (HR5.out.on HB6.out)
  have HRow6 := hid (HRow5.out.on HB6.out)
  have HMap6 := hid (HMap5.out.on HB6.out)
  have hlt6 := HR5.out.lt
  have hlt7 := HRow5.out.lt
  have hlt8 := HMap5.out.lt
  go_wp2_with (at_builtin; refine app_ints _ rfl _ _ rfl w5.heap.size [m.entry] fl _ rfl HL.out _ _ _ rfl rfl HS6.out (by simp; omega) (by omega) ?_)
  intro v7 w7 hg7
  have HO7 := hid hg7.own
  have HB7 := hid ((HB6.out.trans hg7.bel))
  have HR7 := hid (HR5.out.below HB7.out hlt6)
  have HRow7 := hid (HRow5.out.below HB7.out hlt7)
  have HMap7 := hid (show MapAt w7 gm m.code (insOf m.code ms) from (HB7.out.block gm hlt8).trans HMap5.out)
  have HB8 := hid (HB5.out.trans (HB7.out.mono hz5))
  obtain ⟨fs, hfs⟩ : ∃ fs, m.entry :: fl = fs := ⟨_, rfl⟩
  have hown7 := HO7.out
  rw [hfs] at hown7
  have HFs := hid (show funsL m = fs by unfold funsL; rw [HFl.out]; exact hfs)
  have HO8 := hid (own_mono hown7 hz5)
  obtain ⟨s7, c7, rfl⟩ := own_slice hown7
  clear hg7 hown7 hfs
  have z0 := HR7.out.cell 0
  have z1 := HR7.out.cell 1
  have hf := HR7.out.free
  simp at z0 z1
  go_wp2_with fail
  clear z0 z1 hf x1
  refine bodyPost_ret (v := .tuple #[.agg #[.pointer (some ⟨gw, 0, none⟩), .slice s7 fs.length c7], .bool true]) ?_ rfl ?_
  · exact res_cell_tmp Tryz.results54 _ _ g1 #[.pointer (some ⟨gw, 0, none⟩), .slice s7 fs.length c7] _ rfl ((HR7.out.set 0 (.pointer (some ⟨gw, 0, none⟩))).set 1 (.slice s7 fs.length c7)) Tryz.underlying59 size_funs
  have hg1 := HG.out
  have hne : gw ≠ g1 := fun h => by
    have h1 := HRow7.out
    rw [h] at h1
    have := h1.symm.trans HR7.out
    simp at this
  have hnm : gm ≠ g1 := fun h => by
    have h1 := HMap7.out
    unfold MapAt at h1
    rw [h] at h1
    have := h1.symm.trans HR7.out
    simp at this
  have hno : ∀ b, (Value.slice s7 fs.length c7).ownBlock = some b → b ≠ g1 := fun b hb h => no_own HR7.out HO8.out (by decide) (h ▸ hb)
  refine ⟨gw, gm, ms, _, rfl, (HRow7.out.far hne _).far hne _, (HMap7.out.set (by simpa using hnm) _).set (by simpa using hnm) _, HMem.out, HNd.out, ?_, (HB8.out.setCell (p := ⟨g1, 0, none⟩) (by simp only; omega) _).setCell (p := ⟨g1, 1, none⟩) (by simp only; omega) _, HGw.out.1, HGw.out.2⟩
  rw [HFs.out]
  exact own_far (own_far (own_mono HO8.out (by omega)) (p := ⟨g1, 0, none⟩) hno _) (p := ⟨g1, 1, none⟩) hno _
end Go.Proofs.YtihhpgklpichgaaGreat.Wk
namespace Go.Proofs.YtihhpgklpichgaaGreat.Wk
open Go.RowKit Pl Ft Mm In C2 Im Sw

theorem reachL_mem {code S : List Int} {calls : Bool} {x : Int} (h : x ∈ reachL code S calls) : ∃ p : Nat, x = p ∧ p < code.length ∧ Rc (Gm code calls) S p ∧ (readP code p).isSome = true := by
  obtain ⟨q, hq, rfl⟩ := List.mem_map.1 h
  have h1 := List.mem_filter.1 hq
  have h2 : pdec (Rc (Gm code calls) S q ∧ (readP code q).isSome = true) = true := h1.2
  by_cases hP : Rc (Gm code calls) S q ∧ (readP code q).isSome = true
  · exact ⟨q, rfl, List.mem_range.1 h1.1, hP⟩
  · rw [pdec_no hP] at h2; cases h2
theorem callAt_eq {code : List Int} {p : Nat} {i : IIns} (hi : readP code p = some i) : callAt code (p : Int) = if i.op = 29 ∧ i.n < code.length then some i.n else none := by
  unfold callAt
  rw [Int.toNat_natCast, hi]
/-- One call more is marked. -/
theorem mark_more {xs : List Int} {n : Nat} (e : Option Int) : (fun q : Nat => (decide ((q : Int) ∈ xs) && !decide (some (q : Int) = e)) || (q == n)) = (fun q : Nat => if some (n : Int) = e then ((decide ((q : Int) ∈ xs) && !decide (some (q : Int) = e)) || (q == n)) else decide ((q : Int) ∈ xs ++ [(n : Int)]) && !decide (some (q : Int) = e)) := by
  funext q
  by_cases he : some (n : Int) = e
  · rw [if_pos he]
  · rw [if_neg he]
    by_cases h1 : q = n
    · subst h1
      simp [he]
    · have h2 : ¬ (q : Int) = n := by omega
      simp [h1, h2]
structure CsRel (code l : List Int) (e : Option Int) (gb : Nat) (w : World) (k : Nat) (lv : Value) (wr : World) : Prop where
  own : wr.ownsRow w.heap.size 3 1 lv l.length (ints l)
  bat : BAt wr gb code.length (fun q => decide ((q : Int) ∈ callsL code (l.take k)) && !decide (some (q : Int) = e))
  bel : Below w.heap.size w wr
theorem CsRel.skip {code l : List Int} {e : Option Int} {gb : Nat} {w : World} {k : Nat} {lv : Value} {wr w1 : World} (h : CsRel code l e gb w k lv wr) (hk : k < l.length) (hc : callAt code l[k] = none ∨ ∃ n, callAt code l[k] = some n ∧ some n = e) (hb : Below wr.heap.size wr w1) : CsRel code l e gb w (k + 1) lv w1 := by
  refine ⟨own_on h.own hb, ?_, h.bel.trans (hb.mono h.bel.size)⟩
  have e1 : (fun q : Nat => decide ((q : Int) ∈ callsL code (l.take (k + 1))) && !decide (some (q : Int) = e)) = fun q : Nat => decide ((q : Int) ∈ callsL code (l.take k)) && !decide (some (q : Int) = e) := by
    funext q
    rw [callsL_succ code l k hk]
    rcases hc with hc | ⟨n, hc, rfl⟩
    · rw [hc]; simp
    · rw [hc]
      by_cases h2 : (q : Int) = n <;> simp [h2]
  rw [e1]
  exact h.bat.on hb
theorem CsRel.mark {code l : List Int} {e : Option Int} {gb : Nat} {w : World} {k n : Nat} {lv : Value} {wr w1 : World} (h : CsRel code l e gb w k lv wr) (hk : k < l.length) (hc : callAt code l[k] = some (n : Int)) (hne : some (n : Int) ≠ e) (hown : w1.ownsRow w.heap.size 3 1 lv l.length (ints l)) (hb : Below w.heap.size w w1)
    (hbt : BAt w1 gb code.length (fun q => (decide ((q : Int) ∈ callsL code (l.take k)) && !decide (some (q : Int) = e)) || q == n)) : CsRel code l e gb w (k + 1) lv w1 := by
  refine ⟨hown, ?_, hb⟩
  have e1 : (fun q : Nat => decide ((q : Int) ∈ callsL code (l.take (k + 1))) && !decide (some (q : Int) = e)) = (fun q : Nat => (decide ((q : Int) ∈ callsL code (l.take k)) && !decide (some (q : Int) = e)) || q == n) := by
    funext q
    rw [callsL_succ code l k hk, hc]
    by_cases h1 : q = n
    · subst h1
      simp [hne]
    · have h2 : ¬ (q : Int) = n := by omega
      simp [h1, h2]
  rw [e1]
  exact hbt
set_option maxRecDepth 100000 in
set_option maxHeartbeats 8000000 in
theorem sCalledIn_c (code : List Int) (ac : Option Addr) (cc : Nat) (at_ : Int) (w : World) (hr : Rd w (.slice ac code.length cc) code) (hb : code.all isByte = true) (hlen : code.length ≤ 2000) (hpos : 0 < code.length) (h0 : 0 ≤ at_) (h1 : at_ ≤ 100000) :
    Calls Tryz.prog 58 #[.slice ac code.length cc, .int .i64 at_] w (WaysPost2 (calledL code (reachL code [at_] false)) w) := by
  have HRd := hid hr
  have HBy := hid hb
  obtain ⟨i0, hi, hz0, hz1, hz2⟩ := info_parts info_bool
  have H0 := hid hz0
  have H1 := hid hz1
  have H2 := hid hz2
  have HI := hid hi
  clear hz0 hz1 hz2 hi hr hb
  have HB1 := hid ((Below.refl w.heap.size w).alloc (Nat.le_refl _) (.cells #[.int .i64 at_] 3))
  have HRs := hid (Rd.of_own (own_lit w [at_] #[.int .i64 at_] rfl (by simp) 1 rfl))
  go_enter Tryz.func58, Tryz.ntmps58
  go_wp2_with fail
  refine (walk_c code [at_] false ac _ cc _ _ (HRd.out.on HB1.out) HRs.out HBy.out hlen hpos (fun q hq => by obtain rfl : q = at_ := (by simpa using hq); omega) (by simp)).mono ?_
  rintro e w2 ⟨v2, ms, rfl, hown2, hms, hb2⟩
  rw [trues_reach hms] at hown2
  obtain ⟨l, hl⟩ : ∃ l, reachL code [at_] false = l := ⟨_, rfl⟩
  have hmem : ∀ x ∈ l, ∃ p : Nat, x = p ∧ p < code.length ∧ (readP code p).isSome = true := by
    rw [← hl]
    intro x hx
    obtain ⟨p, e1, e2, _, e3⟩ := reachL_mem hx
    exact ⟨p, e1, e2, e3⟩
  have hll : l.length ≤ 2000 := by rw [← hl]; exact Nat.le_trans (reachL_len _ _ _) hlen
  rw [hl] at hown2
  have HMem := hid hmem
  have HL := hid hl
  rw [hl]
  have HO2 := hid (own_mono hown2 HB1.out.size)
  have HB2 := hid (HB1.out.trans (hb2.mono HB1.out.size))
  have hz2 := HB2.out.size
  obtain ⟨s2, c2, rfl⟩ := own_slice hown2
  clear hown2 hb2 hmem hl hms
  go_wp2_with (refine wpList_make_full _ rfl _ _ 102 rfl w2.heap.size 4 i0 (.bool false) 1 Tryz.underlying102 HI.out H0.out H1.out .i64 .i64 _ _ code.length rfl rfl rfl rfl (by rw [H2.out]; omega) (by simp only [maxLen]; omega) (Nat.le_refl _) ?_; intro w3 hown3 hg3)
  rw [made_bools] at hown3
  obtain ⟨g0, c0, he0, _, hbat⟩ := BAt.of_own (f := fun _ => false) hown3 hpos
  simp only [Value.slice.injEq, Option.some.injEq, Addr.mk.injEq, true_and, and_true] at he0
  obtain ⟨rfl, -⟩ := he0
  have hb3 := (Below.refl w2.heap.size w2).grown hg3 (Nat.le_refl _) (by simp)
  have HB3 := hid (HB2.out.trans (hb3.mono hz2))
  have HRel := hid (show CsRel code l none w2.heap.size w 0 (.slice s2 l.length c2) w3 from ⟨own_on HO2.out hb3, by simpa [callsL] using hbat, HB3.out⟩)
  obtain ⟨gb, hgb⟩ : ∃ g, w2.heap.size = g := ⟨_, rfl⟩
  rw [hgb] at HRel
  try rw [hgb]
  have HGb := hid (show w.heap.size ≤ gb by omega)
  clear hown3 hg3 hbat hb3 hgb
  go_wp2_with fail
  go_loopw [8] (fun c wr => ∃ k : Nat, c = .int .i64 k ∧ k ≤ l.length ∧ CsRel code l none gb w k (.slice s2 l.length c2) wr) (fun c _ => l.length - (intOf c).toNat)
  case atStart => exact ⟨0, rfl, by omega, HRel.out⟩
  case round =>
    obtain ⟨k, rfl, hk, hrel⟩ := hrel
    have HR := hid hrel
    have hz := hrel.bel.size
    clear hrel
    by_cases hlt : k < l.length
    case neg =>
      obtain rfl : k = l.length := by omega
      go_wp2_with fail
      refine (trues_c code.length gb _ _ _ HR.out.bat hlen).mono ?_
      rintro e w4 ⟨v4, rfl, hown4, hb4⟩
      have HB4 := hid (HR.out.bel.trans (hb4.mono hz))
      have he : truesL (fun q => decide ((q : Int) ∈ callsL code (l.take l.length)) && !decide (some (q : Int) = none)) code.length = calledL code l := by
        unfold calledL
        rw [List.take_length]
        congr 1
        funext q
        simp
      rw [he] at hown4
      obtain ⟨cl, hcl⟩ : ∃ x, calledL code l = x := ⟨_, rfl⟩
      rw [hcl] at hown4
      have HE := hid hcl
      have HO4 := hid (own_mono hown4 hz)
      obtain ⟨s4, c4, rfl⟩ := own_slice hown4
      clear hown4 hb4 he hcl
      go_wp2_with fail
      go_ret
      rw [HL.out, HE.out]
      exact ⟨_, rfl, HO4.out, HB4.out⟩
    obtain ⟨p, hp, hpl, hps⟩ := HMem.out l[k] (List.getElem_mem hlt)
    have HO := hid HR.out.own
    obtain ⟨g, cap, hsl, hg, hgl⟩ := own_addr HO.out (by omega)
    simp only [Value.slice.injEq, true_and] at hsl
    obtain ⟨rfl, rfl⟩ := hsl
    have hcell : wr.cell? ⟨g, k, none⟩ = some (.int .i64 p) := by
      have h := HO.out.cells (g := g) rfl k (.int .i64 p) (by rw [ints, List.getElem?_map, List.getElem?_eq_getElem hlt, Option.map_some, hp])
      rwa [addr_add] at h
    have hx := byte_at HBy.out p hpl
    have heq := (readP_in hpl).trans (insIn_eq code p hx.1 hx.2)
    obtain ⟨i, hi⟩ := Option.isSome_iff_exists.1 hps
    have hso : sread code p = some i := heq.symm.trans hi
    have HCa := hid (show callAt code l[k] = if i.op = 29 ∧ i.n < code.length then some i.n else none by rw [hp]; exact callAt_eq hi)
    have hln := fun h29 => lead_bd (readP_facts hi).2.1 (.inr (.inr h29))
    have HSo := hid hso
    have HApp := hid (fun b (hb : (Value.slice (some ⟨g, 0, none⟩) l.length c2).ownBlock = some b) => show b ≠ gb from fun h => by
      obtain ⟨cur, hcr, _⟩ := HR.out.bat
      exact no_own hcr HO.out (by decide) (h ▸ hb))
    clear hp hps hx heq hi hso
    go_wp2_with fail
    refine (sRead_c code _ p _ (HRd.out.on HR.out.bel) HBy.out hlen hpl).mono ?_
    rintro e w4 ⟨⟨jop, ja, jb, jn⟩, rfl, hij, hb4⟩
    rw [HSo.out]
    obtain rfl := hij i HSo.out
    unfold IIns.val
    simp only [Option.isSome_some]
    obtain ⟨w5, hw5, hr5, hb5, hz5⟩ := new_ex w4 70 #[.int .i64 jop, .int .i64 ja, .int .i64 jb, .int .i64 jn]
    have HB5 := hid (hb4.trans (hb5.mono hb4.size))
    have HX5 := hid hr5
    have hz45 := hb4.size
    have hbt5 := HR.out.bat.on HB5.out
    have HBt5 := hid hbt5
    have HO5 := hid (own_on HO.out HB5.out)
    have HBl5 := hid (HR.out.bel.trans (HB5.out.mono hz))
    have hgbl := HR.out.bat.lt
    have hfree : ∀ j, w5.frozen? ⟨gb, j, none⟩ = false := fun j => by obtain ⟨cur, hcr, _⟩ := hbt5; exact hcr.free j
    have HFr := hid hfree
    clear hij hr5 hb5 hb4 hbt5 hfree hcell
    simp only at hln HCa
    go_upto_region 7 with fail
    clear hw5
    obtain ⟨g5, hg5⟩ : ∃ g, w4.heap.size = g := ⟨_, rfl⟩
    rw [hg5] at HX5
    try rw [hg5]
    have HNe := hid (show g5 ≠ gb by omega)
    have x0 := HX5.out.cell 0
    have x3 := HX5.out.cell 3
    simp at x0 x3
    by_cases h29 : jop = 29
    · subst h29
      have hn0 := hln rfl
      by_cases hn : jn < code.length
      · have HC2 := hid (show callAt code l[k] = some jn by rw [HCa.out, if_pos ⟨rfl, hn⟩])
        obtain ⟨nn, rfl⟩ := Int.eq_ofNat_of_zero_le hn0.1
        have hbc := HBt5.out.cell (j := nn) (by omega)
        have hfz := HFr.out nn
        clear hln HCa
        go_wp2_with fail
        go_roundw
        case rel => exact ⟨k + 1, by go_num, by omega, HR.out.mark hlt HC2.out (by simp) (own_far HO5.out (p := ⟨gb, nn, none⟩) HApp.out _) (HBl5.out.setCell (p := ⟨gb, nn, none⟩) HGb.out _) (HBt5.out.set (by omega))⟩
        case measure => simp [intOf]; omega
      · have HC2 := hid (show callAt code l[k] = none by rw [HCa.out, if_neg (fun h => hn h.2)])
        clear hln HCa
        go_wp2_with fail
        go_roundw
        case rel => exact ⟨k + 1, by go_num, by omega, HR.out.skip hlt (.inl HC2.out) HB5.out⟩
        case measure => simp [intOf]; omega
    · have HC2 := hid (show callAt code l[k] = none by rw [HCa.out, if_neg (fun h => h29 h.1)])
      have hne : (jop == 29) = false := by rw [beq_eq_false_iff_ne]; exact h29
      clear hln HCa h29
      go_wp2_with fail
      go_roundw
      case rel => exact ⟨k + 1, by go_num, by omega, HR.out.skip hlt (.inl HC2.out) HB5.out⟩
      case measure => simp [intOf]; omega
end Go.Proofs.YtihhpgklpichgaaGreat.Wk
namespace Go.Proofs.YtihhpgklpichgaaGreat.Wk
open Go.RowKit Pl Ft Mm In C2 Im Sw

theorem trues_filter (f : Nat → Bool) (e : Int) (n : Nat) : (truesL f n).filter (fun x => !decide (x = e)) = truesL (fun q => f q && !decide (some (q : Int) = some e)) n := by
  unfold truesL
  rw [List.filter_map, List.filter_filter]
  congr 1
  apply List.filter_congr
  intro q _
  simp [Bool.and_comm]
set_option maxRecDepth 100000 in
set_option maxHeartbeats 8000000 in
theorem sFuns_c (m : Img) (vc vd vn : Value) (w : World) (h : ICells w vc vd vn m) (hok : imageOk m = true) :
    Calls Tryz.prog 53 #[imgVal vc vd vn m] w (WaysPost2 (funsL m) w) := by
  obtain ⟨ac, cc, rfl⟩ := rd_slice h.c
  obtain ⟨ad, cd, rfl⟩ := rd_slice h.d
  obtain ⟨an, cn, rfl⟩ := nrd_slice h.n
  have HI := hid h
  have HBd := hid (imageOk_bd hok)
  have hl2 := HBd.out.c1
  have he0 := HBd.out.e0
  have he1 := HBd.out.e1
  obtain ⟨i0, hi, hz0, hz1, hz2⟩ := info_parts info_bool
  have H0 := hid hz0
  have H1 := hid hz1
  have H2 := hid hz2
  have HIn := hid hi
  clear hz0 hz1 hz2 hi h hok
  have hV : imgVal (.slice ac m.code.length cc) (.slice ad m.data.length cd) (.slice an m.names.length cn) m = .agg #[.slice ac m.code.length cc, .int .i64 m.entry, .int .i64 m.room, .slice ad m.data.length cd, .slice an m.names.length cn] := rfl
  rw [hV]
  clear hV
  obtain ⟨w0, hw0, hr0, hb0, hz0⟩ := new_ex w 30 #[.slice ac m.code.length cc, .int .i64 m.entry, .int .i64 m.room, .slice ad m.data.length cd, .slice an m.names.length cn]
  obtain ⟨w1, hw1, _, hb1, hz1⟩ := new_ex w0 3 #[.int .i64 m.entry]
  have HL1 := hid (show w1.ownsRow w0.heap.size 3 1 (.slice (some ⟨w0.heap.size, 0, none⟩) 1 1) 1 (ints [m.entry]) by rw [← hw1]; exact own_lit w0 [m.entry] #[.int .i64 m.entry] rfl (by simp) 1 rfl)
  have HB1 := hid (hb0.trans (hb1.mono (Nat.le_of_lt hz0)))
  have HX1 := hid (hr0.on hb1)
  have q0 := hr0.cell 0
  have q1 := hr0.cell 1
  have x0 := HX1.out.cell 0
  have x1 := HX1.out.cell 1
  simp at q0 q1 x0 x1
  clear hr0 hb0 hb1
  go_enter Tryz.func53, Tryz.ntmps53
  go_upto_region 3 with (refine wpList_make_full _ rfl _ _ 102 rfl w1.heap.size 4 i0 (.bool false) 1 Tryz.underlying102 HIn.out H0.out H1.out .i64 .i64 _ _ m.code.length rfl rfl rfl rfl (by rw [H2.out]; omega) (by simp only [maxLen]; omega) (Nat.le_refl _) ?_; intro w2 hown2 hg2)
  clear hw0 hw1 q0 q1 x0 x1
  rw [made_bools] at hown2
  obtain ⟨g0, c0, he0', _, hbat⟩ := BAt.of_own (f := fun _ => false) hown2 (by omega)
  simp only [Value.slice.injEq, Option.some.injEq, Addr.mk.injEq, true_and, and_true] at he0'
  obtain ⟨rfl, -⟩ := he0'
  have hb2 := (Below.refl w1.heap.size w1).grown hg2 (Nat.le_refl _) (by simp)
  have HB2 := hid (HB1.out.trans (hb2.mono HB1.out.size))
  have HL2 := hid (own_on HL1.out hb2)
  have HX2 := hid (HX1.out.on hb2)
  have HBt2 := hid hbat
  obtain ⟨gx, hgx⟩ : ∃ g, w.heap.size = g := ⟨_, rfl⟩
  obtain ⟨go, hgo⟩ : ∃ g, w0.heap.size = g := ⟨_, rfl⟩
  obtain ⟨gb, hgb⟩ : ∃ g, w1.heap.size = g := ⟨_, rfl⟩
  have HG := hid (show gx = w.heap.size ∧ w.heap.size < go ∧ go < gb by omega)
  rw [hgb] at HBt2
  rw [hgo] at HL2
  rw [hgx] at HX2
  try rw [hgb]
  try rw [hgo]
  try rw [hgx]
  clear hown2 hg2 hbat hb2 hgx hgo hgb hz0 hz1
  have x0 := HX2.out.cell 0
  have x1 := HX2.out.cell 1
  simp at x0 x1
  have HB3 := hid ((Below.refl w2.heap.size w2).alloc (Nat.le_refl _) (.cells #[.int .i64 m.entry] 3))
  have HRs := hid (Rd.of_own (own_lit w2 [m.entry] #[.int .i64 m.entry] rfl (by simp) 1 rfl))
  go_wp2_with fail
  refine (walk_c m.code [m.entry] true ac _ cc _ _ (HI.out.on (HB2.out.trans (HB3.out.mono HB2.out.size))).c HRs.out HBd.out.cb hl2 (by omega) (fun q hq => by obtain rfl : q = m.entry := (by simpa using hq); omega) (by simp)).mono ?_
  rintro e w4 ⟨v4, ms, rfl, hown4, hms, hb4⟩
  rw [trues_reach hms] at hown4
  obtain ⟨l, hl⟩ : ∃ l, reachL m.code [m.entry] true = l := ⟨_, rfl⟩
  have hmem : ∀ x ∈ l, ∃ p : Nat, x = p ∧ p < m.code.length ∧ (readP m.code p).isSome = true := by
    rw [← hl]
    intro x hx
    obtain ⟨p, e1, e2, _, e3⟩ := reachL_mem hx
    exact ⟨p, e1, e2, e3⟩
  have hll : l.length ≤ 2000 := by rw [← hl]; exact Nat.le_trans (reachL_len _ _ _) hl2
  rw [hl] at hown4
  have HMem := hid hmem
  have HL := hid hl
  have hb24 := HB3.out.trans (hb4.mono HB3.out.size)
  have HB4 := hid (HB2.out.trans (hb24.mono HB2.out.size))
  have HO4 := hid (own_mono hown4 (show w.heap.size ≤ _ from Nat.le_trans HB2.out.size HB3.out.size))
  have HX4 := hid (HX2.out.on hb24)
  have HL4 := hid (own_on HL2.out hb24)
  obtain ⟨s2, c2, rfl⟩ := own_slice hown4
  have HRel := hid (show CsRel m.code l (some m.entry) gb w 0 (.slice s2 l.length c2) w4 from ⟨HO4.out, by simpa [callsL] using HBt2.out.on hb24, HB4.out⟩)
  clear hown4 hb4 hmem hl hms hb24 x0 x1
  go_wp2_with fail
  go_loopw [7] (fun c wr => ∃ k : Nat, c = .int .i64 k ∧ k ≤ l.length ∧ CsRel m.code l (some m.entry) gb w k (.slice s2 l.length c2) wr ∧ Row wr gx 30 #[.slice ac m.code.length cc, .int .i64 m.entry, .int .i64 m.room, .slice ad m.data.length cd, .slice an m.names.length cn] ∧ wr.ownsRow go 3 1 (.slice (some ⟨go, 0, none⟩) 1 1) 1 (ints [m.entry])) (fun c _ => l.length - (intOf c).toNat)
  case atStart => exact ⟨0, rfl, by omega, HRel.out, HX4.out, HL4.out⟩
  case round =>
    obtain ⟨k, rfl, hk, hrel, hrow, hlit⟩ := hrel
    have HR := hid hrel
    have HX := hid hrow
    have HLi := hid hlit
    have hz := hrel.bel.size
    have x0 := hrow.cell 0
    have x1 := hrow.cell 1
    simp at x0 x1
    have hgxl := hrow.lt
    clear hrel hrow hlit
    by_cases hlt : k < l.length
    case neg =>
      obtain rfl : k = l.length := by omega
      go_wp2_with fail
      refine (trues_c m.code.length gb _ _ _ HR.out.bat hl2).mono ?_
      rintro e w5 ⟨v5, rfl, hown5, hb5⟩
      have HB5 := hid (HR.out.bel.trans (hb5.mono hz))
      have he : truesL (fun q => decide ((q : Int) ∈ callsL m.code (l.take l.length)) && !decide (some (q : Int) = some m.entry)) m.code.length = othersL m := by
        unfold othersL calledL
        rw [List.take_length, HL.out, trues_filter]
      rw [he] at hown5
      obtain ⟨ol, hol⟩ : ∃ x, othersL m = x := ⟨_, rfl⟩
      have holl : ol.length ≤ m.code.length := by rw [← hol]; exact othersL_len m
      rw [hol] at hown5
      have HOl := hid (show funsL m = m.entry :: ol by unfold funsL; rw [hol])
      have HLi5 := hid (own_on HLi.out hb5)
      have hz5 := HB5.out.size
      have hgo5 : go ≤ w5.heap.size := by have := HG.out; have := (HLi5.out.lt go rfl).2; omega
      obtain ⟨s5, c5, rfl⟩ := own_slice hown5
      have HSrc := hid (SrcAt.of_rd (Rd.of_own hown5))
      clear hown5 hb5 he hol
      go_wp2_with (at_builtin; refine app_ints _ rfl _ _ rfl go [m.entry] ol _ rfl HLi5.out _ _ _ rfl rfl HSrc.out (by simp; omega) hgo5 ?_)
      intro v6 w6 hg6
      have hown6 := hg6.own
      obtain ⟨fs, hfs⟩ : ∃ fs, m.entry :: ol = fs := ⟨_, rfl⟩
      rw [hfs] at hown6
      have HFs := hid (HOl.out.trans hfs)
      have HO6 := hid (own_mono hown6 (show w.heap.size ≤ go by have := HG.out; omega))
      have HB6 := hid (HB5.out.trans (hg6.bel.mono (show w.heap.size ≤ go by have := HG.out; omega)))
      obtain ⟨s6, c6, rfl⟩ := own_slice hown6
      clear hg6 hown6 hfs
      go_wp2_with fail
      go_ret
      rw [HFs.out]
      exact ⟨_, rfl, HO6.out, HB6.out⟩
    obtain ⟨p, hp, hpl, hps⟩ := HMem.out l[k] (List.getElem_mem hlt)
    have HO := hid HR.out.own
    obtain ⟨g, cap, hsl, hg, hgl⟩ := own_addr HO.out (by omega)
    simp only [Value.slice.injEq, true_and] at hsl
    obtain ⟨rfl, rfl⟩ := hsl
    have hcell : wr.cell? ⟨g, k, none⟩ = some (.int .i64 p) := by
      have h := HO.out.cells (g := g) rfl k (.int .i64 p) (by rw [ints, List.getElem?_map, List.getElem?_eq_getElem hlt, Option.map_some, hp])
      rwa [addr_add] at h
    have hx := byte_at HBd.out.cb p hpl
    have heq := (readP_in hpl).trans (insIn_eq m.code p hx.1 hx.2)
    obtain ⟨⟨jop, ja, jb, jn⟩, hi⟩ := Option.isSome_iff_exists.1 hps
    have hso : sread m.code p = some ⟨jop, ja, jb, jn⟩ := heq.symm.trans hi
    have HCa := hid (show callAt m.code l[k] = if jop = 29 ∧ jn < m.code.length then some jn else none by rw [hp]; exact callAt_eq hi)
    have HLn := hid (fun h29 : jop = 29 => lead_bd (readP_facts hi).2.1 (.inr (.inr h29)))
    have HSo := hid hso
    have HApp := hid (fun b (hb : (Value.slice (some ⟨g, 0, none⟩) l.length c2).ownBlock = some b) => show b ≠ gb from fun h => by
      obtain ⟨cur, hcr, _⟩ := HR.out.bat
      exact no_own hcr HO.out (by decide) (h ▸ hb))
    have HGx := hid (show gx ≠ gb by have := HG.out; omega)
    have HGo := hid (show go ≠ gb by have := HG.out; omega)
    have hgbl := HR.out.bat.lt
    clear hp hps hx heq hi hso
    go_upto_region 7 with fail
    go_cut [8, 9] (fun s8 s9 wx => ∃ g5, s8 = .pointer (some ⟨g5, 0, none⟩) ∧ s9 = .bool true ∧ Row wx g5 70 #[.int .i64 jop, .int .i64 ja, .int .i64 jb, .int .i64 jn] ∧ wr.heap.size ≤ g5 ∧ Below wr.heap.size wr wx)
    case first =>
      go_region_with (first
        | (go_at_call 64; refine (sRead_c m.code _ p wr.drew ((HI.out.on HR.out.bel).c.on ((Below.refl _ _).drew)) HBd.out.cb hl2 hpl).mono ?_; rintro e w5 ⟨i5, rfl, hij, hb5⟩; rw [HSo.out]; obtain rfl := hij ⟨jop, ja, jb, jn⟩ HSo.out; unfold IIns.val; simp only [Option.isSome_some]; have HB5 := hid (((Below.refl wr.heap.size wr).drew).trans hb5); clear hb5)
        | (go_at_call 64; refine (sRead_c m.code _ p _ ((HI.out.on HR.out.bel).c.on (((Below.refl wr.heap.size wr).alloc (Nat.le_refl _) _).drew)) HBd.out.cb hl2 hpl).mono ?_; rintro e w5 ⟨i5, rfl, hij, hb5⟩; rw [HSo.out]; obtain rfl := hij ⟨jop, ja, jb, jn⟩ HSo.out; unfold IIns.val; simp only [Option.isSome_some]; have HZ5 := hid ((Row.new wr 70 #[.int .i64 0, .int .i64 0, .int .i64 0, .int .i64 0]).drew.on hb5); have HB5 := hid ((((Below.refl wr.heap.size wr).alloc (Nat.le_refl _) (.cells #[.int .i64 0, .int .i64 0, .int .i64 0, .int .i64 0] 70)).drew).trans (hb5.mono (by simp [World.drew]))); have z0 := HZ5.out.cell 0; have z1 := HZ5.out.cell 1; have z2 := HZ5.out.cell 2; have z3 := HZ5.out.cell 3; have zf := HZ5.out.free; simp at z0 z1 z2 z3; clear hb5))
      all_goals
        go_wp2_with fail
        go_meet
        refine ⟨_, rfl, rfl, ?_, ?_, ?_⟩
        · first
            | with_reducible exact Row.new _ _ _
            | with_reducible exact four_row HZ5.out _ _ _ _
        · first
            | with_reducible exact HB5.out.size
            | with_reducible exact Nat.le_refl _
        · first
            | with_reducible exact HB5.out.alloc HB5.out.size _
            | with_reducible exact four_bel HB5.out (Nat.le_refl _) _ _ _ _
    case rest =>
      obtain ⟨g5, rfl, rfl, hr5, hg5, hb5⟩ := hcut
      generalize wc = w5 at hr5 hb5 ⊢
      have HB5 := hid hb5
      have HX5 := hid hr5
      have hbt5 := HR.out.bat.on hb5
      have HBt5 := hid hbt5
      have HO5 := hid (own_on HO.out hb5)
      have HBl5 := hid (HR.out.bel.trans (hb5.mono hz))
      have HXi := hid (HX.out.on hb5)
      have HLt5 := hid (own_on HLi.out hb5)
      have hfree : ∀ j, w5.frozen? ⟨gb, j, none⟩ = false := fun j => by obtain ⟨cur, hcr, _⟩ := hbt5; exact hcr.free j
      have HFr := hid hfree
      have HNe := hid (show g5 ≠ gb by omega)
      have x5 := hr5.cell 0
      have x8 := hr5.cell 3
      clear hr5 hb5 hbt5 hfree hcell x0 x1
      have x0 := HXi.out.cell 0
      have x1 := HXi.out.cell 1
      simp at x0 x1 x5 x8
      have skip := fun hc => HR.out.skip (w1 := w5) hlt hc HB5.out
      have HSk := hid skip
      clear skip
      by_cases h29 : jop = 29
      · subst h29
        have hn0 := HLn.out rfl
        simp only at hn0
        by_cases hn : jn < m.code.length
        · have HC2 := hid (show callAt m.code l[k] = some jn by rw [HCa.out, if_pos ⟨rfl, hn⟩])
          obtain ⟨nn, rfl⟩ := Int.eq_ofNat_of_zero_le hn0.1
          by_cases hne : (nn : Int) = m.entry
          · have hnb : ((nn : Int) != m.entry) = false := by rw [hne]; simp
            have HNe2 := hid hne
            clear hne
            go_wp2_with fail
            go_roundw
            case rel => exact ⟨k + 1, by go_num, by omega, HSk.out (.inr ⟨_, HC2.out, by rw [HNe2.out]⟩), HXi.out, HLt5.out⟩
            case measure => simp [intOf]; omega
          · have hnb : ((nn : Int) != m.entry) = true := by simp [hne]
            have HNe2 := hid hne
            have hbc := HBt5.out.cell (j := nn) (by omega)
            have hfz := HFr.out nn
            clear hne
            go_wp2_with fail
            go_roundw
            case rel => exact ⟨k + 1, by go_num, by omega, HR.out.mark hlt HC2.out (by intro h; exact HNe2.out (Option.some.inj h)) (own_far HO5.out (p := ⟨gb, nn, none⟩) HApp.out _) (HBl5.out.setCell (p := ⟨gb, nn, none⟩) (by have := HG.out; simp only; omega) _) (HBt5.out.set (by omega)), HXi.out.far HGx.out _, own_far HLt5.out (p := ⟨gb, nn, none⟩) (fun b hb => by have hb2 : go = b := (by simpa [Value.ownBlock] using hb); rw [← hb2]; exact HGo.out) _⟩
            case measure => simp [intOf]; omega
        · have HC2 := hid (show callAt m.code l[k] = none by rw [HCa.out, if_neg (fun h => hn h.2)])
          go_wp2_with fail
          go_roundw
          case rel => exact ⟨k + 1, by go_num, by omega, HSk.out (.inl HC2.out), HXi.out, HLt5.out⟩
          case measure => simp [intOf]; omega
      · have HC2 := hid (show callAt m.code l[k] = none by rw [HCa.out, if_neg (fun h => h29 h.1)])
        have hne : (jop == 29) = false := by rw [beq_eq_false_iff_ne]; exact h29
        clear h29
        go_wp2_with fail
        go_roundw
        case rel => exact ⟨k + 1, by go_num, by omega, HSk.out (.inl HC2.out), HXi.out, HLt5.out⟩
        case measure => simp [intOf]; omega
end Go.Proofs.YtihhpgklpichgaaGreat.Wk
namespace Go.Proofs.YtihhpgklpichgaaGreat.Wk
open Go.RowKit Pl Ft Mm In C2 Im Sw

noncomputable def funsP (m : Img) : List Int := if imageOk m = true then funsL m else []
theorem funsL_len (m : Img) : (funsL m).length ≤ m.code.length + 1 := by
  unfold funsL
  rw [List.length_cons]
  have := othersL_len m
  omega
theorem funsP_len (m : Img) : (funsP m).length ≤ 1000000 := by
  unfold funsP
  split
  · rename_i h
    have := funsL_len m
    have := (imageOk_bd h).c1
    omega
  · simp
set_option maxRecDepth 100000 in
set_option maxHeartbeats 2000000 in
theorem funsOf_c (m : Img) (vc vd vn : Value) (w : World) (h : ICells w vc vd vn m) (hs : Sm m) (hcc : ∀ a n c, vc = .slice a n c → n ≤ c) :
    Calls Tryz.prog 23 #[imgVal vc vd vn m] w (WaysPost2 (funsP m) w) := by
  obtain ⟨ac, cc, rfl⟩ := rd_slice h.c
  obtain ⟨ad, cd, rfl⟩ := rd_slice h.d
  obtain ⟨an, cn, rfl⟩ := nrd_slice h.n
  have HI := hid h
  have HS := hid hs
  have HCap := hid hcc
  clear h hs hcc
  obtain ⟨o, ho⟩ : ∃ o, funsP m = o := ⟨_, rfl⟩
  have HQ := hid ho
  rw [ho]
  clear ho
  have hV : imgVal (.slice ac m.code.length cc) (.slice ad m.data.length cd) (.slice an m.names.length cn) m = .agg #[.slice ac m.code.length cc, .int .i64 m.entry, .int .i64 m.room, .slice ad m.data.length cd, .slice an m.names.length cn] := rfl
  have HV := hid hV
  rw [hV]
  clear hV
  have HB1 := hid ((Below.refl w.heap.size w).alloc (Nat.le_refl _) (.cells #[.slice ac m.code.length cc, .int .i64 m.entry, .int .i64 m.room, .slice ad m.data.length cd, .slice an m.names.length cn] 30))
  have HX1 := hid (Row.new w 30 #[.slice ac m.code.length cc, .int .i64 m.entry, .int .i64 m.room, .slice ad m.data.length cd, .slice an m.names.length cn])
  have hw01 : w.heap.size < (w.alloc (.cells #[.slice ac m.code.length cc, .int .i64 m.entry, .int .i64 m.room, .slice ad m.data.length cd, .slice an m.names.length cn] 30)).heap.size := by simp
  go_enter Tryz.func23, Tryz.ntmps23
  go_wp2_with fail
  generalize w.alloc (.cells #[.slice ac m.code.length cc, .int .i64 m.entry, .int .i64 m.room, .slice ad m.data.length cd, .slice an m.names.length cn] 30) = w1 at HB1 HX1 hw01 ⊢
  rw [← HV.out]
  cases h1 : imageOk m
  · obtain rfl : o = [] := by rw [← HQ.out, funsP, h1]; rfl
    refine (funsIn_no m _ _ _ w1 (HI.out.on HB1.out) HS.out h1).mono ?_
    rintro e w2 ⟨rfl, hb2⟩
    have HB2 := hid (HB1.out.trans (hb2.mono HB1.out.size))
    clear hb2 h1
    go_wp2_with fail
    go_ret
    exact ⟨_, rfl, World.ownsRow_nil _ _ _ _, HB2.out.alloc HB2.out.size _⟩
  · have HO := hid (show o = funsL m by rw [← HQ.out, funsP, h1]; rfl)
    refine (funsIn_yes m _ _ _ w1 (HI.out.on HB1.out) HS.out HCap.out h1).mono ?_
    rintro e w2 ⟨gw, gm, ms, vl, rfl, hrow, hmap, hmem, hnd, hown, hb2, _, _⟩
    have HB2 := hid (HB1.out.trans (hb2.mono HB1.out.size))
    rw [← HO.out] at hown
    have HOw := hid (own_mono hown HB1.out.size)
    obtain ⟨s3, c3, rfl⟩ := own_slice hown
    clear hb2 h1 hrow hmap hmem hnd hown
    have HOa := hid (HOw.out.alloc (.cells #[.pointer (some ⟨gw, 0, none⟩), .slice s3 o.length c3] 59))
    go_wp2_with fail
    go_ret
    exact ⟨_, rfl, HOa.out, HB2.out.alloc HB2.out.size _⟩
set_option maxRecDepth 100000 in
set_option maxHeartbeats 2000000 in
theorem sFunsOf_c (m : Img) (vc vd vn : Value) (w : World) (h : ICells w vc vd vn m) (hs : Sm m) :
    Calls Tryz.prog 22 #[imgVal vc vd vn m] w (WaysPost2 (funsP m) w) := by
  obtain ⟨ac, cc, rfl⟩ := rd_slice h.c
  obtain ⟨ad, cd, rfl⟩ := rd_slice h.d
  obtain ⟨an, cn, rfl⟩ := nrd_slice h.n
  have HI := hid h
  have HS := hid hs
  clear h hs
  obtain ⟨o, ho⟩ : ∃ o, funsP m = o := ⟨_, rfl⟩
  have HQ := hid ho
  rw [ho]
  clear ho
  have hV : imgVal (.slice ac m.code.length cc) (.slice ad m.data.length cd) (.slice an m.names.length cn) m = .agg #[.slice ac m.code.length cc, .int .i64 m.entry, .int .i64 m.room, .slice ad m.data.length cd, .slice an m.names.length cn] := rfl
  have HV := hid hV
  rw [hV]
  clear hV
  have HB1 := hid ((Below.refl w.heap.size w).alloc (Nat.le_refl _) (.cells #[.slice ac m.code.length cc, .int .i64 m.entry, .int .i64 m.room, .slice ad m.data.length cd, .slice an m.names.length cn] 30))
  have HX1 := hid (Row.new w 30 #[.slice ac m.code.length cc, .int .i64 m.entry, .int .i64 m.room, .slice ad m.data.length cd, .slice an m.names.length cn])
  have hw01 : w.heap.size < (w.alloc (.cells #[.slice ac m.code.length cc, .int .i64 m.entry, .int .i64 m.room, .slice ad m.data.length cd, .slice an m.names.length cn] 30)).heap.size := by simp
  go_enter Tryz.func22, Tryz.ntmps22
  go_wp2_with fail
  generalize w.alloc (.cells #[.slice ac m.code.length cc, .int .i64 m.entry, .int .i64 m.room, .slice ad m.data.length cd, .slice an m.names.length cn] 30) = w1 at HB1 HX1 hw01 ⊢
  rw [← HV.out]
  refine (validImage_c m _ _ _ w1 (HI.out.on HB1.out) HS.out).mono ?_
  rintro e w2 ⟨rfl, hb2⟩
  have HB2 := hid (HB1.out.trans (hb2.mono HB1.out.size))
  have HX2 := hid (HX1.out.on hb2)
  have hz2 := hb2.size
  clear hb2
  cases h1 : imageOk m
  · obtain rfl : o = [] := by rw [← HQ.out, funsP, h1]; rfl
    clear h1
    go_wp2_with fail
    go_ret
    exact ⟨_, rfl, World.ownsRow_nil _ _ _ _, HB2.out⟩
  · have HO := hid (show o = funsL m by rw [← HQ.out, funsP, h1]; rfl)
    have H1 := hid h1
    have x0 := HX2.out.cell 0
    have x1 := HX2.out.cell 1
    have x2 := HX2.out.cell 2
    have x3 := HX2.out.cell 3
    have x4 := HX2.out.cell 4
    simp at x0 x1 x2 x3 x4
    have hw02 : w.heap.size < w2.heap.size := by omega
    clear h1
    go_wp2_with fail
    rw [← HV.out]
    refine (sFuns_c m _ _ _ w2 (HI.out.on HB2.out) H1.out).mono ?_
    rintro e w3 ⟨v3, rfl, hown, hb3⟩
    rw [← HO.out] at hown
    have HOw := hid (own_mono hown HB2.out.size)
    have HB3 := hid (HB2.out.trans (hb3.mono HB2.out.size))
    obtain ⟨s3, c3, rfl⟩ := own_slice hown
    clear hb3 hown
    go_wp2_with fail
    go_ret
    exact ⟨_, rfl, HOw.out, HB3.out⟩
end Go.Proofs.YtihhpgklpichgaaGreat.Wk
/- body, funsWith of the program, isFun of the model; BodyOf and CalledIn of both. -/
namespace Go.Proofs.YtihhpgklpichgaaGreat.Wk
open Go.RowKit Pl Ft Mm In C2 Im Sw

theorem bodyL_len {code : List Int} {ms : List Nat} (hnd : ms.Nodup) (hb : ∀ q ∈ ms, q ≤ 100000) : (bodyL code ms).length ≤ 100001 := by
  unfold bodyL
  rw [List.length_map]
  exact rc_nodup_le 100001 _ (hnd.filter _) (fun q hq => by have := hb q (mem_insOf.1 hq).1; omega)
theorem body_leads (code : List Int) (ac : Option Addr) (cc : Nat) (lb : Value) (gw gm gp gl : Nat) (ms0 : List Nat) (S : List Int) (w00 wS : World)
    (hr : Rd w00 (.slice ac code.length cc) code) (hcap : code.length ≤ cc) (hb00 : Below w00.heap.size w00 wS) (hgl0 : w00.heap.size ≤ gl) (hgl : gl < wS.heap.size) (hby : code.all isByte = true) (hlen : code.length ≤ 2000)
    (hw : Row wS gw 88 #[.slice ac code.length cc, .map (some gm), lb]) (hm : MapAt wS gm code ms0) (hp : Row wS gp 52 #[.pointer (some ⟨gw, 0, none⟩)]) (h1 : gw ≠ gl) (h2 : gm ≠ gl) (h3 : gp ≠ gl)
    (hms0 : ∀ p, Rc (Gm code false) S p → (p ∈ ms0 ↔ (readP code p).isSome = true)) (hGB : GBd (Gm code false) S 100000 10) :
    LeadsF (toL (Gm code false)) (S.map Int.toNat) 100001 99 #[] #[.pointer (some ⟨gp, 0, none⟩), .pointer (some ⟨gl, 0, none⟩)] (fun ms T w => BdSt code gl wS ms T w ∧ ms.Nodup ∧ ∀ q ∈ ms, q ≤ 100000) where
  call ms T p w hI hpN1 hn hrc1 _ := by
    have hpN : p ≤ 100000 := by omega
    have hrc := (rc_av hGB p).2 hrc1
    have hnd : (ms ++ [p]).Nodup := by
      rw [List.nodup_append]
      exact ⟨hI.2.1, by simp, fun a ha b hb => by
        obtain rfl : b = p := by simpa using hb
        exact fun e => hn (e ▸ ha)⟩
    have hbd : ∀ q ∈ ms ++ [p], q ≤ 100000 := fun q hq => by
      rcases List.mem_append.1 hq with h | h
      · exact hI.2.2 q h
      · obtain rfl : q = p := by simpa using h
        exact hpN
    refine (bodyFn_c code ac cc lb gw gm gp gl ms0 w00 wS ms T p w hr hcap hb00 hgl0 hgl hby hlen hw hm hp h1 h2 h3 (hms0 p hrc) hpN hI.1 (bodyL_len hnd hbd)).mono ?_
    rintro e w' ⟨v, T', B', rfl, hB, hTB, ho, hs, hT, hon⟩
    exact ⟨v, T', rfl, by rw [show natI (toL (Gm code false) p) = Gm code false p from natI_toN (fun q hq => (hGB.bd p hpN q hq).1)]; exact Rd.of_own ho, fun k hk => ⟨by have := (ho.lt k hk).1; omega, fun h => by have := (ho.lt k hk).1; have := hTB k h; omega⟩, ⟨hs, hnd, hbd⟩, hT, hon⟩
  enter xs w := by kernel_rfl
  on ms T w w' z hI hz ho := ⟨hI.1.on hgl hz ho, hI.2⟩
  lt ms T w hI k hk := hI.1.lt k hk
  len p hp := by
    unfold toL
    rw [List.length_map]
    have := hGB.len p (by omega)
    omega
set_option maxRecDepth 100000 in
set_option maxHeartbeats 4000000 in
theorem body_c (code : List Int) (ac : Option Addr) (cc : Nat) (lb : Value) (gw gm at_ : Nat) (ms0 : List Nat) (w : World) (hr : Rd w (.slice ac code.length cc) code) (hcap : code.length ≤ cc) (hby : code.all isByte = true) (hlen : code.length ≤ 2000) (hat : at_ ≤ 2000)
    (hw : Row w gw 88 #[.slice ac code.length cc, .map (some gm), lb]) (hm : MapAt w gm code ms0) (hms0 : ∀ p, Rc (Gm code false) [(at_ : Int)] p → (p ∈ ms0 ↔ (readP code p).isSome = true)) :
    Calls Tryz.prog 57 #[.pointer (some ⟨gw, 0, none⟩), .int .i64 at_] w (WaysPost2 (reachL code [(at_ : Int)] false) w) := by
  have HRd := hid hr
  have HBy := hid hby
  have HW := hid hw
  have HM := hid hm
  have HMs := hid hms0
  have hgw := hw.lt
  have hgm := hm.lt
  obtain ⟨w1, hw1, hr1, hb1, hz1⟩ := new_ex w 52 #[.pointer (some ⟨gw, 0, none⟩)]
  obtain ⟨w2, hw2, hr2, hb2, hz2⟩ := new_ex w1 22 #[.slice none 0 0]
  obtain ⟨w3, hw3, _, hb3, hz3⟩ := new_ex w2 3 #[.int .i64 at_]
  have HL3 := hid (show w3.ownsRow w2.heap.size 3 1 (.slice (some ⟨w2.heap.size, 0, none⟩) 1 1) 1 (ints [(at_ : Int)]) by rw [← hw3]; exact own_lit w2 [(at_ : Int)] #[.int .i64 at_] rfl (by simp) 1 rfl)
  have hb02 := hb1.trans (hb2.mono (Nat.le_of_lt hz1))
  have HB2 := hid hb02
  have HB23 := hid hb3
  have HP2 := hid (hr1.on hb2)
  have HR2 := hid hr2
  have HR3 := hid (hr2.on hb3)
  have HW2 := hid (hw.on hb02)
  have HM2 := hid (hm.on hb02)
  clear hr hby hw hm hms0 hr1 hr2 hb1 hb2 hb3 hb02
  go_enter Tryz.func57, Tryz.ntmps57
  go_wp2_with fail
  clear hw1 hw2 hw3
  have HG := hid (show w.heap.size < w2.heap.size ∧ w1.heap.size < w2.heap.size ∧ w.heap.size < w1.heap.size by omega)
  have hGB := gm_bd HBy.out hlen false (S := [(at_ : Int)]) (fun q hq => by obtain rfl : q = (at_ : Int) := (by simpa using hq); omega)
  have HGB := hid hGB
  have hgb := gbd_lt hGB
  refine (reached_f [at_] _ _ (body_leads code ac cc lb gw gm w.heap.size w1.heap.size ms0 [(at_ : Int)] w w2 HRd.out hcap HB2.out (by omega) (by omega) HBy.out hlen HW2.out HM2.out HP2.out (by omega) (by omega) (by omega) HMs.out hGB) hgb.1 (by omega) (by simp; omega) (by simp) (Rd.of_own HL3.out) (fun k hk => ?_) ⟨⟨⟨_, rfl, HR3.out, World.ownsRow_nil _ _ _ _⟩, .of_below HB23.out, by simp [bodyL, insOf]⟩, List.nodup_nil, fun q hq => by cases hq⟩).mono ?_
  · have h1 := HL3.out.lt k hk
    exact ⟨h1.2, fun h => by
      rcases h with h | h
      · have := h1.1; omega
      · cases h⟩
  rintro e w4 ⟨ms, lf, v4, T, rfl, hd, hown4, ⟨hst, _, _⟩, _⟩
  have hmem := dfs_rc HGB.out hd
  have hnd := hd.nodup List.nodup_nil
  obtain ⟨s4, c4, rfl⟩ := own_slice hown4
  clear hd hown4 hGB hgb
  obtain ⟨lv, rfl, hrow, hown⟩ := hst.ex
  have HOn := hid hst.only
  have hsl := hst.len
  have hso : sortI (bodyL code ms) = reachL code [(at_ : Int)] false := by
    rw [← trues_reach hmem]
    exact sorted_trues (.refl _) (hnd.filter _) insOf_lt
  obtain ⟨bl, hbl⟩ : ∃ l, bodyL code ms = l := ⟨_, rfl⟩
  rw [hbl] at hown hsl hso
  have HSo := hid hso
  have HO4 := hid hown
  have HR4 := hid hrow
  have l0 := hrow.cell 0
  obtain ⟨ls, lc, rfl⟩ := own_slice hown
  simp at l0
  clear hst hmem hnd hrow hown hso hbl
  go_wp2_with fail
  refine (sort_c w2.heap.size bl _ w4 HO4.out (by omega)).mono ?_
  rintro e w5 ⟨rfl, hown5, ho5⟩
  have hfar := fun k (hk : (Value.slice ls bl.length lc).ownBlock = some k) => (HO4.out.lt k hk).1
  have HR5 := hid (row_only HR4.out (fun h => by have := hfar _ h; omega) ho5)
  have HOn5 := hid (only_mix HOn.out ho5 (fun k hk => .inr (hfar k hk)))
  have l1 := HR5.out.cell 0
  simp at l1
  rw [HSo.out] at hown5
  obtain ⟨rl, hrl⟩ : ∃ l, reachL code [(at_ : Int)] false = l := ⟨_, rfl⟩
  rw [hrl] at hown5
  have hll : rl.length = bl.length := by rw [← hrl, ← HSo.out]; exact sortI_len bl
  have HRl := hid hrl
  have HLl := hid hll
  have HO5 := hid hown5
  clear l0 ho5 hown5 hrl hll hfar
  go_wp2_with fail
  go_ret
  rw [HRl.out]
  exact ⟨_, rfl, own_mono HO5.out (by omega), HB2.out.trans (HOn5.out.below HB2.out.size (fun k hk => by rw [hk]; omega))⟩
end Go.Proofs.YtihhpgklpichgaaGreat.Wk
namespace Go.Proofs.YtihhpgklpichgaaGreat.Wk
open Go.RowKit Pl Ft Mm In C2 Im Sw

def IdxPost2 (l : List Int) (x : Int) (w : World) (e : Ending) (w' : World) : Prop := ∃ r : Int, e = .returned (.int .i64 r) ∧ ((x ∈ l ∧ 0 ≤ r ∧ r ≤ 1000000) ∨ (x ∉ l ∧ r = -1)) ∧ w' = w
set_option maxHeartbeats 1000000 in
theorem idx_c (l : List Int) (v : Value) (x : Int) (w : World) (hr : Rd w v l) (hl : l.length ≤ 1000000) : Calls Tryz.prog 103 #[v, .int .i64 x] w (IdxPost2 l x w) := by
  obtain ⟨a, cap, rfl, ha⟩ := hr
  have HA := hid ha
  clear ha
  go_enter Tryz.func103, Tryz.ntmps103
  go_wp2_with fail
  go_loopw [8] (fun c wr => ∃ k : Nat, c = .int .i64 k ∧ k ≤ l.length ∧ (∀ y ∈ l.take k, y ≠ x) ∧ wr = w) (fun c _ => l.length - (intOf c).toNat)
  case atStart => exact ⟨0, rfl, by omega, by simp, rfl⟩
  case round =>
    obtain ⟨k, rfl, hk, hno, rfl⟩ := hrel
    have HNo := hid hno
    clear hno
    by_cases hlt : k < l.length
    · rcases HA.out with h | ⟨g, o, rfl, hg, hcs⟩
      · subst h; simp at hlt
      have q0 := hcs k hlt
      have hgd : l.getD k 0 = l[k] := by simp [hlt]
      rw [hgd] at q0
      have HMem := hid (List.getElem_mem hlt)
      have HTk := hid (List.take_succ_eq_append_getElem hlt)
      obtain ⟨y, hy⟩ : ∃ y, l[k] = y := ⟨_, rfl⟩
      rw [hy] at q0 HMem HTk
      clear hcs hgd hy
      by_cases he : x = y
      · subst he
        go_wp2_with fail
        go_ret
        exact ⟨_, rfl, .inl ⟨HMem.out, by omega, by omega⟩, rfl⟩
      · have hne : (x == y) = false := by rw [beq_eq_false_iff_ne]; exact he
        have HE := hid he
        clear he
        go_wp2_with fail
        go_roundw
        case rel => exact ⟨k + 1, by go_num, by omega, fun z hz => by
          rw [HTk.out] at hz
          rcases List.mem_append.1 hz with h | h
          · exact HNo.out z h
          · obtain rfl : z = y := by simpa using h
            exact fun h => HE.out h.symm, by first | rfl | trivial⟩
        case measure => simp [intOf]; omega
    · obtain rfl : k = l.length := by omega
      go_wp2_with fail
      go_ret
      refine ⟨_, rfl, .inr ⟨fun h => ?_, rfl⟩, rfl⟩
      have h2 := HNo.out
      rw [List.take_length] at h2
      exact h2 x h rfl
theorem contains_c (l : List Int) (v : Value) (x : Int) (w : World) (hr : Rd w v l) (hl : l.length ≤ 1000000) : Calls Tryz.prog 62 #[v, .int .i64 x] w fun e w' => e = .returned (.bool (decide (x ∈ l))) ∧ w' = w := by
  have HR := hid hr
  obtain ⟨a, cap, rfl, _⟩ := hr
  go_enter Tryz.func62, Tryz.ntmps62
  go_wp2_with fail
  refine (idx_c l _ x w HR.out hl).mono ?_
  rintro e w1 ⟨r, rfl, h, rfl⟩
  rcases h with ⟨h1, h2, h3⟩ | ⟨h1, rfl⟩
  · have HD := hid (decide_eq_true h1)
    clear h1
    go_wp2_with fail
    go_ret
    rw [HD.out]
    exact ⟨rfl, rfl⟩
  · have HD := hid (decide_eq_false h1)
    clear h1
    go_wp2_with fail
    go_ret
    rw [HD.out]
    exact ⟨rfl, rfl⟩
set_option maxHeartbeats 1000000 in
theorem placeOf_c (l : List Int) (v : Value) (x : Int) (w : World) (hr : Rd w v l) (hl : l.length ≤ 1000000) : Calls Tryz.prog 102 #[v, .int .i64 x] w (IdxPost2 l x w) := by
  obtain ⟨a, cap, rfl, ha⟩ := hr
  have HA := hid ha
  clear ha
  go_enter Tryz.func102, Tryz.ntmps102
  go_wp2_with fail
  go_loopw [5] (fun c wr => ∃ k : Nat, c = .int .i64 k ∧ k ≤ l.length ∧ (∀ y ∈ l.take k, y ≠ x) ∧ wr = w) (fun c _ => l.length - (intOf c).toNat)
  case atStart => exact ⟨0, rfl, by omega, by simp, rfl⟩
  case round =>
    obtain ⟨k, rfl, hk, hno, rfl⟩ := hrel
    have HNo := hid hno
    clear hno
    by_cases hlt : k < l.length
    · rcases HA.out with h | ⟨g, o, rfl, hg, hcs⟩
      · subst h; simp at hlt
      have q0 := hcs k hlt
      have hgd : l.getD k 0 = l[k] := by simp [hlt]
      rw [hgd] at q0
      have HMem := hid (List.getElem_mem hlt)
      have HTk := hid (List.take_succ_eq_append_getElem hlt)
      obtain ⟨y, hy⟩ : ∃ y, l[k] = y := ⟨_, rfl⟩
      rw [hy] at q0 HMem HTk
      clear hcs hgd hy
      by_cases he : y = x
      · subst he
        go_wp2_with fail
        go_ret
        exact ⟨_, rfl, .inl ⟨HMem.out, by omega, by omega⟩, rfl⟩
      · have hne : (y == x) = false := by rw [beq_eq_false_iff_ne]; exact he
        have HE := hid he
        clear he
        go_wp2_with fail
        go_roundw
        case rel => exact ⟨k + 1, by go_num, by omega, fun z hz => by
          rw [HTk.out] at hz
          rcases List.mem_append.1 hz with h | h
          · exact HNo.out z h
          · obtain rfl : z = y := by simpa using h
            exact HE.out, by first | rfl | trivial⟩
        case measure => simp [intOf]; omega
    · obtain rfl : k = l.length := by omega
      go_wp2_with fail
      go_ret
      refine ⟨_, rfl, .inr ⟨fun h => ?_, rfl⟩, rfl⟩
      have h2 := HNo.out
      rw [List.take_length] at h2
      exact h2 x h rfl
theorem inList_c (l : List Int) (v : Value) (x : Int) (w : World) (hr : Rd w v l) (hl : l.length ≤ 1000000) : Calls Tryz.prog 60 #[v, .int .i64 x] w fun e w' => e = .returned (.bool (decide (x ∈ l))) ∧ w' = w := by
  have HR := hid hr
  obtain ⟨a, cap, rfl, _⟩ := hr
  go_enter Tryz.func60, Tryz.ntmps60
  go_wp2_with fail
  refine (placeOf_c l _ x w HR.out hl).mono ?_
  rintro e w1 ⟨r, rfl, h, rfl⟩
  rcases h with ⟨h1, h2, h3⟩ | ⟨h1, rfl⟩
  · have HD := hid (decide_eq_true h1)
    clear h1
    go_wp2_with fail
    go_ret
    rw [HD.out]
    exact ⟨rfl, rfl⟩
  · have HD := hid (decide_eq_false h1)
    clear h1
    go_wp2_with fail
    go_ret
    rw [HD.out]
    exact ⟨rfl, rfl⟩
/-- A function is reached. -/
theorem funs_rc {m : Img} {x : Int} (hok : imageOk m = true) (h : x ∈ funsL m) : ∃ p : Nat, x = p ∧ p < m.code.length ∧ Rc (Gm m.code true) [m.entry] p := by
  have hb := imageOk_bd hok
  have he0 := hb.e0
  have he1 := hb.e1
  unfold funsL at h
  rcases List.mem_cons.1 h with rfl | h
  · exact ⟨m.entry.toNat, by omega, by omega, .start _ (by rw [show ((m.entry.toNat : Nat) : Int) = m.entry by omega]; simp)⟩
  · unfold othersL at h
    have h1 := (List.mem_filter.1 h).1
    unfold calledL at h1
    obtain ⟨q, hq, rfl⟩ := List.mem_map.1 h1
    have h2 := of_decide_eq_true (List.mem_filter.1 hq).2
    obtain ⟨y, hy, hc⟩ := List.mem_filterMap.1 h2
    obtain ⟨p, rfl, _, hrc, _⟩ := reachL_mem hy
    unfold callAt at hc
    rw [Int.toNat_natCast] at hc
    refine ⟨q, rfl, List.mem_range.1 (List.mem_filter.1 hq).1, .step p q hrc ?_⟩
    unfold Gm
    cases hr : readP m.code p with
    | none => rw [hr] at hc; cases hc
    | some i =>
      rw [hr] at hc
      simp only at hc ⊢
      split at hc
      · rename_i hcc
        have := Option.some.inj hc
        rw [if_pos (by first | exact ⟨rfl, hcc.1⟩ | exact ⟨trivial, hcc.1⟩ | exact hcc.1), List.mem_append]
        exact .inr (by simp [this])
      · cases hc
theorem rc_sub {code : List Int} {S : List Int} {p q : Nat} (hp : Rc (Gm code true) S p) (h : Rc (Gm code false) [(p : Int)] q) : Rc (Gm code true) S q := by
  induction h with
  | start r hr =>
    obtain rfl : r = p := by have := List.mem_singleton.1 hr; omega
    exact hp
  | step a b _ hb ih =>
    refine .step a b ih ?_
    unfold Gm at hb ⊢
    cases hr : readP code a with
    | none => rw [hr] at hb; cases hb
    | some i =>
      rw [hr] at hb
      simp only at hb ⊢
      rw [List.mem_append] at hb ⊢
      rcases hb with h | h
      · exact .inl h
      · simp at h
end Go.Proofs.YtihhpgklpichgaaGreat.Wk
namespace Go.Proofs.YtihhpgklpichgaaGreat.Wk
open Go.RowKit Pl Ft Mm In C2 Im Sw

noncomputable def isFunP (m : Img) (x : Int) : Bool := imageOk m && decide (x ∈ funsL m)
def FwNo (w : World) (e : Ending) (w' : World) : Prop := e = .returned (.tuple #[.agg #[.pointer none, .slice none 0 0], .bool false]) ∧ Below w.heap.size w w'
set_option maxRecDepth 100000 in
set_option maxHeartbeats 4000000 in
theorem funsWith_no (m : Img) (vc vd vn : Value) (x : Int) (w : World) (h : ICells w vc vd vn m) (hs : Sm m) (hcc : ∀ a n c, vc = .slice a n c → n ≤ c) (hf : isFunP m x = false) :
    Calls Tryz.prog 56 #[imgVal vc vd vn m, .int .i64 x] w (FwNo w) := by
  obtain ⟨ac, cc, rfl⟩ := rd_slice h.c
  obtain ⟨ad, cd, rfl⟩ := rd_slice h.d
  obtain ⟨an, cn, rfl⟩ := nrd_slice h.n
  have HI := hid h
  have HS := hid hs
  have HCap := hid hcc
  have HF := hid hf
  clear h hs hcc hf
  have hV : imgVal (.slice ac m.code.length cc) (.slice ad m.data.length cd) (.slice an m.names.length cn) m = .agg #[.slice ac m.code.length cc, .int .i64 m.entry, .int .i64 m.room, .slice ad m.data.length cd, .slice an m.names.length cn] := rfl
  have HV := hid hV
  rw [hV]
  clear hV
  obtain ⟨w0, hw0, hr0, hb0, hz0⟩ := new_ex w 30 #[.slice ac m.code.length cc, .int .i64 m.entry, .int .i64 m.room, .slice ad m.data.length cd, .slice an m.names.length cn]
  obtain ⟨w1, hw1, hr1, hb1, hz1⟩ := new_ex w0 59 #[.pointer none, .slice none 0 0]
  have HB1 := hid (hb0.trans (hb1.mono (Nat.le_of_lt hz0)))
  have HX1 := hid (hr0.on hb1)
  have HR1 := hid hr1
  have x0 := HX1.out.cell 0
  have x1 := HX1.out.cell 1
  have x2 := HX1.out.cell 2
  have x3 := HX1.out.cell 3
  have x4 := HX1.out.cell 4
  simp at x0 x1 x2 x3 x4
  clear hr0 hb0 hr1 hb1
  go_enter Tryz.func56, Tryz.ntmps56
  go_wp2_with fail
  clear hw0 hw1 x0 x1 x2 x3 x4
  obtain ⟨g1, hg1⟩ : ∃ g, w0.heap.size = g := ⟨_, rfl⟩
  have HG := hid (show w.heap.size < g1 ∧ g1 < w1.heap.size by omega)
  rw [hg1] at HR1
  try rw [hg1]
  clear hg1 hz0 hz1
  rw [← HV.out]
  cases h1 : imageOk m
  · refine (funsIn_no m _ _ _ w1 (HI.out.on HB1.out) HS.out h1).mono ?_
    rintro e w2 ⟨rfl, hb2⟩
    clear h1
    have HB3 := hid (HB1.out.trans (hb2.mono HB1.out.size))
    have HR3 := hid (HR1.out.on hb2)
    have hlt2 := HR3.out.lt
    have z0 := HR3.out.cell 0
    have z1 := HR3.out.cell 1
    have hf := HR3.out.free
    simp at z0 z1
    clear hb2
    go_wp2_with fail
    clear z0 z1 hf
    refine bodyPost_ret (v := .tuple #[.agg #[.pointer none, .slice none 0 0], .bool false]) ?_ rfl ?_
    · first
        | exact res_cell_tmp Tryz.results56 _ _ g1 #[.pointer none, .slice none 0 0] _ rfl (((HR3.out.set 0 (.pointer none)).set 1 (.slice none 0 0)).alloc (.cells #[.pointer none, .slice none 0 0] 59)) Tryz.underlying59 size_funs
        | exact res_cell_tmp Tryz.results56 _ _ g1 #[.pointer none, .slice none 0 0] _ rfl (((HR3.out.alloc (.cells #[.pointer none, .slice none 0 0] 59)).set 0 (.pointer none)).set 1 (.slice none 0 0)) Tryz.underlying59 size_funs
    have hg := HG.out
    first
      | exact ⟨rfl, ((HB3.out.setCell (p := ⟨g1, 0, none⟩) (by simp only; omega) _).setCell (p := ⟨g1, 1, none⟩) (by simp only; omega) _).alloc (by simp [World.setCell]; exact HB3.out.size) _⟩
      | exact ⟨rfl, ((HB3.out.alloc HB3.out.size _).setCell (p := ⟨g1, 0, none⟩) (by simp only; omega) _).setCell (p := ⟨g1, 1, none⟩) (by simp only; omega) _⟩
  · have hx : x ∉ funsL m := fun hm => by have h := HF.out; unfold isFunP at h; rw [h1, decide_eq_true hm] at h; cases h
    have HX := hid hx
    have hfl := funsL_len m
    have hl2 := (imageOk_bd h1).c1
    refine (funsIn_yes m _ _ _ w1 (HI.out.on HB1.out) HS.out HCap.out h1).mono ?_
    rintro e w2 ⟨gw, gm, ms, vl, rfl, _, _, _, _, hown, hb2, _, _⟩
    obtain ⟨fl, hfs⟩ : ∃ l, funsL m = l := ⟨_, rfl⟩
    rw [hfs] at hown hfl
    have HFl := hid hfs
    obtain ⟨sl, cl, rfl⟩ := own_slice hown
    clear h1 hx hfs
    obtain ⟨w3, hw3, hr3, hb3, _⟩ := new_ex w2 59 #[.pointer (some ⟨gw, 0, none⟩), .slice sl fl.length cl]
    have HO3 := hid (own_on hown hb3)
    have HB3 := hid (HB1.out.trans ((hb2.trans (hb3.mono hb2.size)).mono HB1.out.size))
    have HR3 := hid (HR1.out.on (hb2.trans (hb3.mono hb2.size)))
    have y0 := hr3.cell 0
    have y1 := hr3.cell 1
    simp at y0 y1
    clear hb2 hb3 hown hr3
    go_wp2_with fail
    refine (contains_c fl _ x w3 (.of_own HO3.out) (by omega)).mono ?_
    rintro e w4 ⟨rfl, rfl⟩
    rw [decide_eq_false (by rw [← HFl.out]; exact HX.out)]
    have z0 := HR3.out.cell 0
    have z1 := HR3.out.cell 1
    have hf := HR3.out.free
    simp at z0 z1
    clear hw3
    go_wp2_with fail
    clear z0 z1 hf
    refine bodyPost_ret (v := .tuple #[.agg #[.pointer none, .slice none 0 0], .bool false]) ?_ rfl ?_
    · exact res_cell_tmp Tryz.results56 _ _ g1 #[.pointer none, .slice none 0 0] _ rfl ((HR3.out.set 0 (.pointer none)).set 1 (.slice none 0 0)) Tryz.underlying59 size_funs
    exact ⟨rfl, (HB3.out.setCell (p := ⟨g1, 0, none⟩) (by have := HG.out; simp only; omega) _).setCell (p := ⟨g1, 1, none⟩) (by have := HG.out; simp only; omega) _⟩
def FwYes (m : Img) (vc : Value) (w : World) (e : Ending) (w' : World) : Prop :=
  ∃ (gw gm : Nat) (ms : List Nat) (vl : Value), e = .returned (.tuple #[.agg #[.pointer (some ⟨gw, 0, none⟩), vl], .bool true]) ∧ Row w' gw 88 #[vc, .map (some gm), .bool (lostIn m.code ms)] ∧ MapAt w' gm m.code (insOf m.code ms) ∧ (∀ p, p ∈ ms ↔ Rc (Gw m.code) [m.entry] p) ∧ (∃ s c, vl = .slice s (funsL m).length c) ∧ Below w.heap.size w w'
set_option maxRecDepth 100000 in
set_option maxHeartbeats 4000000 in
theorem funsWith_yes (m : Img) (vc vd vn : Value) (x : Int) (w : World) (h : ICells w vc vd vn m) (hs : Sm m) (hcc : ∀ a n c, vc = .slice a n c → n ≤ c) (h1 : imageOk m = true) (hx : x ∈ funsL m) :
    Calls Tryz.prog 56 #[imgVal vc vd vn m, .int .i64 x] w (FwYes m vc w) := by
  obtain ⟨ac, cc, rfl⟩ := rd_slice h.c
  obtain ⟨ad, cd, rfl⟩ := rd_slice h.d
  obtain ⟨an, cn, rfl⟩ := nrd_slice h.n
  have HI := hid h
  have HS := hid hs
  have HCap := hid hcc
  have H1 := hid h1
  have HX := hid hx
  have hfl := funsL_len m
  have hl2 := (imageOk_bd h1).c1
  clear h hs hcc h1 hx
  have hV : imgVal (.slice ac m.code.length cc) (.slice ad m.data.length cd) (.slice an m.names.length cn) m = .agg #[.slice ac m.code.length cc, .int .i64 m.entry, .int .i64 m.room, .slice ad m.data.length cd, .slice an m.names.length cn] := rfl
  have HV := hid hV
  rw [hV]
  clear hV
  obtain ⟨w0, hw0, hr0, hb0, hz0⟩ := new_ex w 30 #[.slice ac m.code.length cc, .int .i64 m.entry, .int .i64 m.room, .slice ad m.data.length cd, .slice an m.names.length cn]
  obtain ⟨w1, hw1, hr1, hb1, hz1⟩ := new_ex w0 59 #[.pointer none, .slice none 0 0]
  have HB1 := hid (hb0.trans (hb1.mono (Nat.le_of_lt hz0)))
  have HX1 := hid (hr0.on hb1)
  have HR1 := hid hr1
  have x0 := HX1.out.cell 0
  have x1 := HX1.out.cell 1
  have x2 := HX1.out.cell 2
  have x3 := HX1.out.cell 3
  have x4 := HX1.out.cell 4
  simp at x0 x1 x2 x3 x4
  clear hr0 hb0 hr1 hb1
  go_enter Tryz.func56, Tryz.ntmps56
  go_wp2_with fail
  clear hw0 hw1 x0 x1 x2 x3 x4
  obtain ⟨g1, hg1⟩ : ∃ g, w0.heap.size = g := ⟨_, rfl⟩
  have HG := hid (show w.heap.size < g1 ∧ g1 < w1.heap.size by omega)
  rw [hg1] at HR1
  try rw [hg1]
  clear hg1 hz0 hz1
  rw [← HV.out]
  refine (funsIn_yes m _ _ _ w1 (HI.out.on HB1.out) HS.out HCap.out H1.out).mono ?_
  rintro e w2 ⟨gw, gm, ms, vl, rfl, hrow, hmap, hmem, hnd, hown, hb2, _, _⟩
  obtain ⟨fl, hfs⟩ : ∃ l, funsL m = l := ⟨_, rfl⟩
  rw [hfs] at hown hfl
  have HFl := hid hfs
  obtain ⟨sl, cl, rfl⟩ := own_slice hown
  obtain ⟨w3, hw3, hr3, hb3, _⟩ := new_ex w2 59 #[.pointer (some ⟨gw, 0, none⟩), .slice sl fl.length cl]
  have HO3 := hid (own_on hown hb3)
  have HB3 := hid (HB1.out.trans ((hb2.trans (hb3.mono hb2.size)).mono HB1.out.size))
  have HR3 := hid (HR1.out.on (hb2.trans (hb3.mono hb2.size)))
  have HRow := hid (hrow.on hb3)
  have HMap := hid (hmap.on hb3)
  have HMem := hid hmem
  have y0 := hr3.cell 0
  have y1 := hr3.cell 1
  simp at y0 y1
  clear hb2 hb3 hown hr3 hrow hmap hmem hnd hfs
  go_wp2_with fail
  refine (contains_c fl _ x w3 (.of_own HO3.out) (by omega)).mono ?_
  rintro e w4 ⟨rfl, rfl⟩
  rw [decide_eq_true (by rw [← HFl.out]; exact HX.out)]
  have z0 := HR3.out.cell 0
  have z1 := HR3.out.cell 1
  have hf := HR3.out.free
  simp at z0 z1
  clear hw3
  go_wp2_with fail
  clear z0 z1 hf y0 y1
  refine bodyPost_ret (v := .tuple #[.agg #[.pointer (some ⟨gw, 0, none⟩), .slice sl fl.length cl], .bool true]) ?_ rfl ?_
  · exact res_cell_tmp Tryz.results56 _ _ g1 #[.pointer (some ⟨gw, 0, none⟩), .slice sl fl.length cl] _ rfl ((HR3.out.set 0 (.pointer (some ⟨gw, 0, none⟩))).set 1 (.slice sl fl.length cl)) Tryz.underlying59 size_funs
  have hne : gw ≠ g1 := fun h => by
    have h1 := HRow.out
    rw [h] at h1
    have := h1.symm.trans HR3.out
    simp at this
  have hnm : gm ≠ g1 := fun h => by
    have h1 := HMap.out
    unfold MapAt at h1
    rw [h] at h1
    have := h1.symm.trans HR3.out
    simp at this
  exact ⟨gw, gm, ms, _, rfl, (HRow.out.far hne _).far hne _, (HMap.out.set (by simpa using hnm) _).set (by simpa using hnm) _, HMem.out, ⟨sl, cl, by rw [HFl.out]⟩, (HB3.out.setCell (p := ⟨g1, 0, none⟩) (by have := HG.out; simp only; omega) _).setCell (p := ⟨g1, 1, none⟩) (by have := HG.out; simp only; omega) _⟩
set_option maxRecDepth 100000 in
set_option maxHeartbeats 2000000 in
theorem isFun_c (m : Img) (vc vd vn : Value) (x : Int) (w : World) (h : ICells w vc vd vn m) (hs : Sm m) :
    Calls Tryz.prog 55 #[imgVal vc vd vn m, .int .i64 x] w fun e w' => e = .returned (.bool (isFunP m x)) ∧ Below w.heap.size w w' := by
  obtain ⟨ac, cc, rfl⟩ := rd_slice h.c
  obtain ⟨ad, cd, rfl⟩ := rd_slice h.d
  obtain ⟨an, cn, rfl⟩ := nrd_slice h.n
  have HI := hid h
  have HS := hid hs
  clear h hs
  obtain ⟨o, ho⟩ : ∃ o, isFunP m x = o := ⟨_, rfl⟩
  have HQ := hid ho
  rw [ho]
  clear ho
  have hV : imgVal (.slice ac m.code.length cc) (.slice ad m.data.length cd) (.slice an m.names.length cn) m = .agg #[.slice ac m.code.length cc, .int .i64 m.entry, .int .i64 m.room, .slice ad m.data.length cd, .slice an m.names.length cn] := rfl
  have HV := hid hV
  rw [hV]
  clear hV
  have HB1 := hid ((Below.refl w.heap.size w).alloc (Nat.le_refl _) (.cells #[.slice ac m.code.length cc, .int .i64 m.entry, .int .i64 m.room, .slice ad m.data.length cd, .slice an m.names.length cn] 30))
  have HX1 := hid (Row.new w 30 #[.slice ac m.code.length cc, .int .i64 m.entry, .int .i64 m.room, .slice ad m.data.length cd, .slice an m.names.length cn])
  have hw01 : w.heap.size < (w.alloc (.cells #[.slice ac m.code.length cc, .int .i64 m.entry, .int .i64 m.room, .slice ad m.data.length cd, .slice an m.names.length cn] 30)).heap.size := by simp
  go_enter Tryz.func55, Tryz.ntmps55
  go_wp2_with fail
  generalize w.alloc (.cells #[.slice ac m.code.length cc, .int .i64 m.entry, .int .i64 m.room, .slice ad m.data.length cd, .slice an m.names.length cn] 30) = w1 at HB1 HX1 hw01 ⊢
  rw [← HV.out]
  refine (validImage_c m _ _ _ w1 (HI.out.on HB1.out) HS.out).mono ?_
  rintro e w2 ⟨rfl, hb2⟩
  have HB2 := hid (HB1.out.trans (hb2.mono HB1.out.size))
  have HX2 := hid (HX1.out.on hb2)
  have hz2 := hb2.size
  clear hb2
  cases h1 : imageOk m
  · obtain rfl : o = false := by rw [← HQ.out, isFunP, h1]; rfl
    clear h1
    go_wp2_with fail
    go_ret
    exact ⟨rfl, HB2.out⟩
  · have HO := hid (show o = decide (x ∈ funsL m) by rw [← HQ.out, isFunP, h1]; rfl)
    have H1 := hid h1
    have hfl := funsL_len m
    have hl2 := (imageOk_bd h1).c1
    have x0 := HX2.out.cell 0
    have x1 := HX2.out.cell 1
    have x2 := HX2.out.cell 2
    have x3 := HX2.out.cell 3
    have x4 := HX2.out.cell 4
    simp at x0 x1 x2 x3 x4
    have hw02 : w.heap.size < w2.heap.size := by omega
    clear h1
    go_wp2_with fail
    rw [← HV.out]
    refine (sFuns_c m _ _ _ w2 (HI.out.on HB2.out) H1.out).mono ?_
    rintro e w3 ⟨v3, rfl, hown, hb3⟩
    have HB3 := hid (HB2.out.trans (hb3.mono HB2.out.size))
    obtain ⟨fl, hfs⟩ : ∃ l, funsL m = l := ⟨_, rfl⟩
    rw [hfs] at hown hfl HO
    have HOw := hid hown
    obtain ⟨s3, c3, rfl⟩ := own_slice hown
    clear hb3 hown hfs
    go_wp2_with fail
    refine (inList_c fl _ x w3 (.of_own HOw.out) (by omega)).mono ?_
    rintro e w4 ⟨rfl, rfl⟩
    rw [← HO.out]
    go_wp2_with fail
    go_ret
    exact ⟨rfl, HB3.out⟩
noncomputable def bodyP (m : Img) (x : Int) : List Int := if isFunP m x = true then reachL m.code [x] false else []
theorem bodyP_len (m : Img) (x : Int) : (bodyP m x).length ≤ 1000000 := by
  unfold bodyP
  split
  · rename_i h
    have h1 : imageOk m = true := by unfold isFunP at h; exact (Bool.and_eq_true_iff.1 h).1
    have := (imageOk_bd h1).c1
    have := reachL_len m.code [x] false
    omega
  · simp
set_option maxRecDepth 100000 in
set_option maxHeartbeats 4000000 in
theorem bodyOf_c (m : Img) (vc vd vn : Value) (x : Int) (w : World) (h : ICells w vc vd vn m) (hs : Sm m) (hcc : ∀ a n c, vc = .slice a n c → n ≤ c) :
    Calls Tryz.prog 25 #[imgVal vc vd vn m, .int .i64 x] w (WaysPost2 (bodyP m x) w) := by
  obtain ⟨ac, cc, rfl⟩ := rd_slice h.c
  obtain ⟨ad, cd, rfl⟩ := rd_slice h.d
  obtain ⟨an, cn, rfl⟩ := nrd_slice h.n
  have HI := hid h
  have HS := hid hs
  have HCap := hid hcc
  clear h hs hcc
  obtain ⟨o, ho⟩ : ∃ o, bodyP m x = o := ⟨_, rfl⟩
  have HQ := hid ho
  rw [ho]
  clear ho
  have hV : imgVal (.slice ac m.code.length cc) (.slice ad m.data.length cd) (.slice an m.names.length cn) m = .agg #[.slice ac m.code.length cc, .int .i64 m.entry, .int .i64 m.room, .slice ad m.data.length cd, .slice an m.names.length cn] := rfl
  have HV := hid hV
  rw [hV]
  clear hV
  have HB1 := hid ((Below.refl w.heap.size w).alloc (Nat.le_refl _) (.cells #[.slice ac m.code.length cc, .int .i64 m.entry, .int .i64 m.room, .slice ad m.data.length cd, .slice an m.names.length cn] 30))
  have HX1 := hid (Row.new w 30 #[.slice ac m.code.length cc, .int .i64 m.entry, .int .i64 m.room, .slice ad m.data.length cd, .slice an m.names.length cn])
  have hw01 : w.heap.size < (w.alloc (.cells #[.slice ac m.code.length cc, .int .i64 m.entry, .int .i64 m.room, .slice ad m.data.length cd, .slice an m.names.length cn] 30)).heap.size := by simp
  go_enter Tryz.func25, Tryz.ntmps25
  go_wp2_with fail
  generalize w.alloc (.cells #[.slice ac m.code.length cc, .int .i64 m.entry, .int .i64 m.room, .slice ad m.data.length cd, .slice an m.names.length cn] 30) = w1 at HB1 HX1 hw01 ⊢
  rw [← HV.out]
  cases hf : isFunP m x
  · obtain rfl : o = [] := by rw [← HQ.out, bodyP, hf]; rfl
    refine (funsWith_no m _ _ _ x w1 (HI.out.on HB1.out) HS.out HCap.out hf).mono ?_
    rintro e w2 ⟨rfl, hb2⟩
    have HB2 := hid (HB1.out.trans (hb2.mono HB1.out.size))
    clear hb2 hf
    go_wp2_with fail
    go_ret
    exact ⟨_, rfl, World.ownsRow_nil _ _ _ _, HB2.out.alloc HB2.out.size _⟩
  · have HO := hid (show o = reachL m.code [x] false by rw [← HQ.out, bodyP, hf]; rfl)
    have h1 : imageOk m = true := by unfold isFunP at hf; exact (Bool.and_eq_true_iff.1 hf).1
    have hx : x ∈ funsL m := by unfold isFunP at hf; exact of_decide_eq_true (Bool.and_eq_true_iff.1 hf).2
    have HBd := hid (imageOk_bd h1)
    have hl2 := HBd.out.c1
    obtain ⟨p, rfl, hpl, hrc⟩ := funs_rc h1 hx
    have HRc := hid hrc
    refine (funsWith_yes m _ _ _ p w1 (HI.out.on HB1.out) HS.out HCap.out h1 hx).mono ?_
    rintro e w2 ⟨gw, gm, ms, vl, rfl, hrow, hmap, hmem, ⟨sl, cl, rfl⟩, hb2⟩
    obtain ⟨fn, hfn⟩ : ∃ k, (funsL m).length = k := ⟨_, rfl⟩
    rw [hfn]
    obtain ⟨w3, hw3, hr3, hb3, hz3⟩ := new_ex w2 59 #[.pointer (some ⟨gw, 0, none⟩), .slice sl fn cl]
    have HB3 := hid (HB1.out.trans ((hb2.trans (hb3.mono hb2.size)).mono HB1.out.size))
    have HRow := hid (hrow.on hb3)
    have HMap := hid (hmap.on hb3)
    have HMem := hid hmem
    have HR3 := hid hr3
    have hcl : m.code.length ≤ cc := HCap.out _ _ _ rfl
    have HIn := hid (show ∀ q, Rc (Gm m.code false) [(p : Int)] q → (q ∈ insOf m.code ms ↔ (readP m.code q).isSome = true) from fun q hq => by
      rw [mem_insOf]
      exact ⟨fun h => h.2, fun h => ⟨(gw_gm hmem q).2 (rc_sub hrc hq), h⟩⟩)
    clear hf h1 hx hrc hrow hmap hmem hb2 hb3 hr3 hfn
    have y0 := HR3.out.cell 0
    have y1 := HR3.out.cell 1
    simp at y0 y1
    go_wp2_with fail
    clear hw3
    refine (body_c m.code ac cc _ gw gm p (insOf m.code ms) w3 (HI.out.on HB3.out).c hcl HBd.out.cb hl2 (by omega) HRow.out HMap.out HIn.out).mono ?_
    rintro e w4 ⟨v4, rfl, hown, hb4⟩
    rw [← HO.out] at hown
    have HOw := hid (own_mono hown HB3.out.size)
    have HB4 := hid (HB3.out.trans (hb4.mono HB3.out.size))
    obtain ⟨s4, c4, rfl⟩ := own_slice hown
    clear hown hb4
    go_wp2_with fail
    go_ret
    exact ⟨_, rfl, HOw.out, HB4.out⟩
set_option maxRecDepth 100000 in
set_option maxHeartbeats 4000000 in
theorem specBodyOf_c (m : Img) (vc vd vn : Value) (x : Int) (w : World) (h : ICells w vc vd vn m) (hs : Sm m) :
    Calls Tryz.prog 24 #[imgVal vc vd vn m, .int .i64 x] w (WaysPost2 (bodyP m x) w) := by
  obtain ⟨ac, cc, rfl⟩ := rd_slice h.c
  obtain ⟨ad, cd, rfl⟩ := rd_slice h.d
  obtain ⟨an, cn, rfl⟩ := nrd_slice h.n
  have HI := hid h
  have HS := hid hs
  clear h hs
  obtain ⟨o, ho⟩ : ∃ o, bodyP m x = o := ⟨_, rfl⟩
  have HQ := hid ho
  rw [ho]
  clear ho
  have hV : imgVal (.slice ac m.code.length cc) (.slice ad m.data.length cd) (.slice an m.names.length cn) m = .agg #[.slice ac m.code.length cc, .int .i64 m.entry, .int .i64 m.room, .slice ad m.data.length cd, .slice an m.names.length cn] := rfl
  have HV := hid hV
  rw [hV]
  clear hV
  have HB1 := hid ((Below.refl w.heap.size w).alloc (Nat.le_refl _) (.cells #[.slice ac m.code.length cc, .int .i64 m.entry, .int .i64 m.room, .slice ad m.data.length cd, .slice an m.names.length cn] 30))
  have HX1 := hid (Row.new w 30 #[.slice ac m.code.length cc, .int .i64 m.entry, .int .i64 m.room, .slice ad m.data.length cd, .slice an m.names.length cn])
  have hw01 : w.heap.size < (w.alloc (.cells #[.slice ac m.code.length cc, .int .i64 m.entry, .int .i64 m.room, .slice ad m.data.length cd, .slice an m.names.length cn] 30)).heap.size := by simp
  go_enter Tryz.func24, Tryz.ntmps24
  go_wp2_with fail
  generalize w.alloc (.cells #[.slice ac m.code.length cc, .int .i64 m.entry, .int .i64 m.room, .slice ad m.data.length cd, .slice an m.names.length cn] 30) = w1 at HB1 HX1 hw01 ⊢
  rw [← HV.out]
  refine (isFun_c m _ _ _ x w1 (HI.out.on HB1.out) HS.out).mono ?_
  rintro e w2 ⟨rfl, hb2⟩
  have HB2 := hid (HB1.out.trans (hb2.mono HB1.out.size))
  have HX2 := hid (HX1.out.on hb2)
  have hz2 := hb2.size
  clear hb2
  cases hf : isFunP m x
  · obtain rfl : o = [] := by rw [← HQ.out, bodyP, hf]; rfl
    clear hf
    go_wp2_with fail
    go_ret
    exact ⟨_, rfl, World.ownsRow_nil _ _ _ _, HB2.out⟩
  · have HO := hid (show o = reachL m.code [x] false by rw [← HQ.out, bodyP, hf]; rfl)
    have h1 : imageOk m = true := by unfold isFunP at hf; exact (Bool.and_eq_true_iff.1 hf).1
    have hx : x ∈ funsL m := by unfold isFunP at hf; exact of_decide_eq_true (Bool.and_eq_true_iff.1 hf).2
    have HBd := hid (imageOk_bd h1)
    have hl2 := HBd.out.c1
    obtain ⟨p, rfl, hpl, _⟩ := funs_rc h1 hx
    have x0 := HX2.out.cell 0
    simp at x0
    have hw02 : w.heap.size < w2.heap.size := by omega
    clear hf h1 hx
    have HB3 := hid (HB2.out.alloc HB2.out.size (.cells #[.int .i64 p] 3))
    have HRs := hid (Rd.of_own (own_lit w2 [(p : Int)] #[.int .i64 p] rfl (by simp) 1 rfl))
    go_wp2_with fail
    refine (walk_c m.code [(p : Int)] false ac _ cc _ _ (HI.out.on HB3.out).c HRs.out HBd.out.cb hl2 (by omega) (fun q hq => by obtain rfl : q = (p : Int) := (by simpa using hq); omega) (by simp)).mono ?_
    rintro e w3 ⟨v, ms, rfl, hown, hms, hb3⟩
    have HB4 := hid (HB3.out.trans (hb3.mono HB3.out.size))
    rw [trues_reach hms, ← HO.out] at hown
    have HOw := hid (own_mono hown HB3.out.size)
    obtain ⟨s, c, rfl⟩ := own_slice hown
    clear hown hms hb3
    go_wp2_with fail
    go_ret
    exact ⟨_, rfl, HOw.out, HB4.out⟩
set_option maxRecDepth 100000 in
set_option maxHeartbeats 2000000 in
theorem wcalledIn_c (code : List Int) (ac : Option Addr) (cc : Nat) (lb : Value) (gw gm at_ : Nat) (ms0 : List Nat) (w : World) (hr : Rd w (.slice ac code.length cc) code) (hcap : code.length ≤ cc) (hby : code.all isByte = true) (hlen : code.length ≤ 2000) (hat : at_ ≤ 2000)
    (hw : Row w gw 88 #[.slice ac code.length cc, .map (some gm), lb]) (hm : MapAt w gm code ms0) (hms0 : ∀ p, Rc (Gm code false) [(at_ : Int)] p → (p ∈ ms0 ↔ (readP code p).isSome = true)) (hms1 : ∀ p ∈ ms0, (readP code p).isSome = true) :
    Calls Tryz.prog 59 #[.pointer (some ⟨gw, 0, none⟩), .int .i64 at_] w (WaysPost2 (calledL code (reachL code [(at_ : Int)] false)) w) := by
  have HW := hid hw
  have HM := hid hm
  have HR := hid hr
  have HBy := hid hby
  have HMs := hid hms0
  have HM1 := hid hms1
  clear hr hby hw hm hms0 hms1
  go_enter Tryz.func59, Tryz.ntmps59
  go_wp2_with fail
  refine (body_c code ac cc lb gw gm at_ ms0 w HR.out hcap HBy.out hlen hat HW.out HM.out HMs.out).mono ?_
  rintro e w1 ⟨v1, rfl, hown, hb1⟩
  have hpl : ∀ x ∈ reachL code [(at_ : Int)] false, ∃ p : Nat, x = p ∧ p ∈ ms0 := fun x hx => by
    obtain ⟨p, e, _, h1, h2⟩ := reachL_mem hx
    exact ⟨p, e, (HMs.out p h1).2 h2⟩
  have hll := reachL_len code [(at_ : Int)] false
  obtain ⟨bl, hbl⟩ : ∃ l, reachL code [(at_ : Int)] false = l := ⟨_, rfl⟩
  rw [hbl] at hown hpl hll
  have HBl := hid hbl
  have HPl := hid hpl
  have HOw := hid hown
  have HB1 := hid hb1
  have HW1 := hid (HW.out.on hb1)
  have HMp1 := hid (HM.out.on hb1)
  obtain ⟨s1, c1, rfl⟩ := own_slice hown
  clear hown hb1 hbl hpl
  go_wp2_with fail
  refine (calledAt_c code ac cc lb gw gm ms0 bl _ w1 HW1.out HMp1.out (.of_own HOw.out) HPl.out HM1.out (by omega)).mono ?_
  rintro e w2 ⟨v2, rfl, hown, hb2⟩
  obtain ⟨cl, hcl⟩ : ∃ l, calledL code bl = l := ⟨_, rfl⟩
  rw [hcl] at hown
  have HCl := hid hcl
  have HO2 := hid (own_mono hown HB1.out.size)
  have HB2 := hid (HB1.out.trans (hb2.mono HB1.out.size))
  obtain ⟨s2, c2, rfl⟩ := own_slice hown
  clear hown hb2 hcl
  go_wp2_with fail
  go_ret
  rw [HBl.out, HCl.out]
  exact ⟨_, rfl, HO2.out, HB2.out⟩
noncomputable def calledP (m : Img) (x : Int) : List Int := if isFunP m x = true then calledL m.code (reachL m.code [x] false) else []
theorem calledP_len (m : Img) (x : Int) : (calledP m x).length ≤ 1000000 := by
  unfold calledP
  split
  · rename_i h
    have h1 : imageOk m = true := by unfold isFunP at h; exact (Bool.and_eq_true_iff.1 h).1
    have := (imageOk_bd h1).c1
    have := calledL_len m.code (reachL m.code [x] false)
    omega
  · simp
set_option maxRecDepth 100000 in
set_option maxHeartbeats 4000000 in
theorem calledIn_c (m : Img) (vc vd vn : Value) (x : Int) (w : World) (h : ICells w vc vd vn m) (hs : Sm m) (hcc : ∀ a n c, vc = .slice a n c → n ≤ c) :
    Calls Tryz.prog 27 #[imgVal vc vd vn m, .int .i64 x] w (WaysPost2 (calledP m x) w) := by
  obtain ⟨ac, cc, rfl⟩ := rd_slice h.c
  obtain ⟨ad, cd, rfl⟩ := rd_slice h.d
  obtain ⟨an, cn, rfl⟩ := nrd_slice h.n
  have HI := hid h
  have HS := hid hs
  have HCap := hid hcc
  clear h hs hcc
  obtain ⟨o, ho⟩ : ∃ o, calledP m x = o := ⟨_, rfl⟩
  have HQ := hid ho
  rw [ho]
  clear ho
  have hV : imgVal (.slice ac m.code.length cc) (.slice ad m.data.length cd) (.slice an m.names.length cn) m = .agg #[.slice ac m.code.length cc, .int .i64 m.entry, .int .i64 m.room, .slice ad m.data.length cd, .slice an m.names.length cn] := rfl
  have HV := hid hV
  rw [hV]
  clear hV
  have HB1 := hid ((Below.refl w.heap.size w).alloc (Nat.le_refl _) (.cells #[.slice ac m.code.length cc, .int .i64 m.entry, .int .i64 m.room, .slice ad m.data.length cd, .slice an m.names.length cn] 30))
  have HX1 := hid (Row.new w 30 #[.slice ac m.code.length cc, .int .i64 m.entry, .int .i64 m.room, .slice ad m.data.length cd, .slice an m.names.length cn])
  have hw01 : w.heap.size < (w.alloc (.cells #[.slice ac m.code.length cc, .int .i64 m.entry, .int .i64 m.room, .slice ad m.data.length cd, .slice an m.names.length cn] 30)).heap.size := by simp
  go_enter Tryz.func27, Tryz.ntmps27
  go_wp2_with fail
  generalize w.alloc (.cells #[.slice ac m.code.length cc, .int .i64 m.entry, .int .i64 m.room, .slice ad m.data.length cd, .slice an m.names.length cn] 30) = w1 at HB1 HX1 hw01 ⊢
  rw [← HV.out]
  cases hf : isFunP m x
  · obtain rfl : o = [] := by rw [← HQ.out, calledP, hf]; rfl
    refine (funsWith_no m _ _ _ x w1 (HI.out.on HB1.out) HS.out HCap.out hf).mono ?_
    rintro e w2 ⟨rfl, hb2⟩
    have HB2 := hid (HB1.out.trans (hb2.mono HB1.out.size))
    clear hb2 hf
    go_wp2_with fail
    go_ret
    exact ⟨_, rfl, World.ownsRow_nil _ _ _ _, HB2.out.alloc HB2.out.size _⟩
  · have HO := hid (show o = calledL m.code (reachL m.code [x] false) by rw [← HQ.out, calledP, hf]; rfl)
    have h1 : imageOk m = true := by unfold isFunP at hf; exact (Bool.and_eq_true_iff.1 hf).1
    have hx : x ∈ funsL m := by unfold isFunP at hf; exact of_decide_eq_true (Bool.and_eq_true_iff.1 hf).2
    have HBd := hid (imageOk_bd h1)
    have hl2 := HBd.out.c1
    obtain ⟨p, rfl, hpl, hrc⟩ := funs_rc h1 hx
    have HRc := hid hrc
    refine (funsWith_yes m _ _ _ p w1 (HI.out.on HB1.out) HS.out HCap.out h1 hx).mono ?_
    rintro e w2 ⟨gw, gm, ms, vl, rfl, hrow, hmap, hmem, ⟨sl, cl, rfl⟩, hb2⟩
    obtain ⟨fn, hfn⟩ : ∃ k, (funsL m).length = k := ⟨_, rfl⟩
    rw [hfn]
    obtain ⟨w3, hw3, hr3, hb3, hz3⟩ := new_ex w2 59 #[.pointer (some ⟨gw, 0, none⟩), .slice sl fn cl]
    have HB3 := hid (HB1.out.trans ((hb2.trans (hb3.mono hb2.size)).mono HB1.out.size))
    have HRow := hid (hrow.on hb3)
    have HMap := hid (hmap.on hb3)
    have HMem := hid hmem
    have HR3 := hid hr3
    have hcl : m.code.length ≤ cc := HCap.out _ _ _ rfl
    have HIn := hid (show ∀ q, Rc (Gm m.code false) [(p : Int)] q → (q ∈ insOf m.code ms ↔ (readP m.code q).isSome = true) from fun q hq => by
      rw [mem_insOf]
      exact ⟨fun h => h.2, fun h => ⟨(gw_gm hmem q).2 (rc_sub hrc hq), h⟩⟩)
    clear hf h1 hx hrc hrow hmap hmem hb2 hb3 hr3 hfn
    have y0 := HR3.out.cell 0
    have y1 := HR3.out.cell 1
    simp at y0 y1
    go_wp2_with fail
    clear hw3
    refine (wcalledIn_c m.code ac cc _ gw gm p (insOf m.code ms) w3 (HI.out.on HB3.out).c hcl HBd.out.cb hl2 (by omega) HRow.out HMap.out HIn.out (fun q hq => (mem_insOf.1 hq).2)).mono ?_
    rintro e w4 ⟨v4, rfl, hown, hb4⟩
    rw [← HO.out] at hown
    have HOw := hid (own_mono hown HB3.out.size)
    have HB4 := hid (HB3.out.trans (hb4.mono HB3.out.size))
    obtain ⟨s4, c4, rfl⟩ := own_slice hown
    clear hown hb4
    go_wp2_with fail
    go_ret
    exact ⟨_, rfl, HOw.out, HB4.out⟩
set_option maxRecDepth 100000 in
set_option maxHeartbeats 4000000 in
theorem specCalledIn_c (m : Img) (vc vd vn : Value) (x : Int) (w : World) (h : ICells w vc vd vn m) (hs : Sm m) :
    Calls Tryz.prog 26 #[imgVal vc vd vn m, .int .i64 x] w (WaysPost2 (calledP m x) w) := by
  obtain ⟨ac, cc, rfl⟩ := rd_slice h.c
  obtain ⟨ad, cd, rfl⟩ := rd_slice h.d
  obtain ⟨an, cn, rfl⟩ := nrd_slice h.n
  have HI := hid h
  have HS := hid hs
  clear h hs
  obtain ⟨o, ho⟩ : ∃ o, calledP m x = o := ⟨_, rfl⟩
  have HQ := hid ho
  rw [ho]
  clear ho
  have hV : imgVal (.slice ac m.code.length cc) (.slice ad m.data.length cd) (.slice an m.names.length cn) m = .agg #[.slice ac m.code.length cc, .int .i64 m.entry, .int .i64 m.room, .slice ad m.data.length cd, .slice an m.names.length cn] := rfl
  have HV := hid hV
  rw [hV]
  clear hV
  have HB1 := hid ((Below.refl w.heap.size w).alloc (Nat.le_refl _) (.cells #[.slice ac m.code.length cc, .int .i64 m.entry, .int .i64 m.room, .slice ad m.data.length cd, .slice an m.names.length cn] 30))
  have HX1 := hid (Row.new w 30 #[.slice ac m.code.length cc, .int .i64 m.entry, .int .i64 m.room, .slice ad m.data.length cd, .slice an m.names.length cn])
  have hw01 : w.heap.size < (w.alloc (.cells #[.slice ac m.code.length cc, .int .i64 m.entry, .int .i64 m.room, .slice ad m.data.length cd, .slice an m.names.length cn] 30)).heap.size := by simp
  go_enter Tryz.func26, Tryz.ntmps26
  go_wp2_with fail
  generalize w.alloc (.cells #[.slice ac m.code.length cc, .int .i64 m.entry, .int .i64 m.room, .slice ad m.data.length cd, .slice an m.names.length cn] 30) = w1 at HB1 HX1 hw01 ⊢
  rw [← HV.out]
  refine (isFun_c m _ _ _ x w1 (HI.out.on HB1.out) HS.out).mono ?_
  rintro e w2 ⟨rfl, hb2⟩
  have HB2 := hid (HB1.out.trans (hb2.mono HB1.out.size))
  have HX2 := hid (HX1.out.on hb2)
  have hz2 := hb2.size
  clear hb2
  cases hf : isFunP m x
  · obtain rfl : o = [] := by rw [← HQ.out, calledP, hf]; rfl
    clear hf
    go_wp2_with fail
    go_ret
    exact ⟨_, rfl, World.ownsRow_nil _ _ _ _, HB2.out⟩
  · have HO := hid (show o = calledL m.code (reachL m.code [x] false) by rw [← HQ.out, calledP, hf]; rfl)
    have h1 : imageOk m = true := by unfold isFunP at hf; exact (Bool.and_eq_true_iff.1 hf).1
    have hx : x ∈ funsL m := by unfold isFunP at hf; exact of_decide_eq_true (Bool.and_eq_true_iff.1 hf).2
    have HBd := hid (imageOk_bd h1)
    have hl2 := HBd.out.c1
    obtain ⟨p, rfl, hpl, _⟩ := funs_rc h1 hx
    have x0 := HX2.out.cell 0
    simp at x0
    have hw02 : w.heap.size < w2.heap.size := by omega
    clear hf h1 hx
    go_wp2_with fail
    refine (sCalledIn_c m.code ac cc p w2 (HI.out.on HB2.out).c HBd.out.cb hl2 (by omega) (by omega) (by omega)).mono ?_
    rintro e w3 ⟨v, rfl, hown, hb3⟩
    have HB4 := hid (HB2.out.trans (hb3.mono HB2.out.size))
    rw [← HO.out] at hown
    have HOw := hid (own_mono hown HB2.out.size)
    obtain ⟨s, c, rfl⟩ := own_slice hown
    clear hown hb3
    go_wp2_with fail
    go_ret
    exact ⟨_, rfl, HOw.out, HB4.out⟩
end Go.Proofs.YtihhpgklpichgaaGreat.Wk
/- Maps by numbers, kept whole: in the order in which their keys came, a value written over where its key was. -/
namespace Go.Proofs.YtihhpgklpichgaaGreat.Wk
open Go.RowKit Go.MapKept Pl Ft Mm In C2 Im Sw

section
variable {α : Type}
def putE : List (Nat × α) → Nat → α → List (Nat × α)
  | [], q, x => [(q, x)]
  | (k, y) :: r, q, x => if k = q then (q, x) :: r else (k, y) :: putE r q x
def lookE : List (Nat × α) → Nat → Option α
  | [], _ => none
  | (k, y) :: r, q => if k = q then some y else lookE r q
def idxE : List (Nat × α) → Nat → Option (Nat × α)
  | [], _ => none
  | (k, y) :: r, q => if k = q then some (0, y) else (idxE r q).map fun t => (t.1 + 1, t.2)
theorem lookE_idx (es : List (Nat × α)) (q : Nat) : lookE es q = (idxE es q).map (·.2) := by
  induction es with
  | nil => rfl
  | cons e es ih =>
    obtain ⟨k, y⟩ := e
    unfold lookE idxE
    by_cases h : k = q
    · rw [if_pos h, if_pos h]; rfl
    · rw [if_neg h, if_neg h, ih]
      cases idxE es q <;> rfl
theorem look_put (es : List (Nat × α)) (q r : Nat) (x : α) : lookE (putE es q x) r = if r = q then some x else lookE es r := by
  induction es with
  | nil =>
    by_cases h : r = q
    · subst h; simp [putE, lookE]
    · have h2 : ¬ q = r := fun e => h e.symm
      simp [putE, lookE, h, h2]
  | cons e es ih =>
    obtain ⟨k, y⟩ := e
    by_cases hk : k = q
    · subst hk
      by_cases h : r = k
      · subst h; simp [putE, lookE]
      · have h2 : ¬ k = r := fun e => h e.symm
        simp [putE, lookE, h, h2]
    · by_cases h : r = q
      · subst h; simp [putE, lookE, hk, ih]
      · by_cases h3 : k = r
        · simp [putE, lookE, hk, h, h3]
        · simp [putE, lookE, hk, h, h3, ih]
theorem putE_len (es : List (Nat × α)) (q : Nat) (x : α) : (putE es q x).length ≤ es.length + 1 := by
  induction es with
  | nil => simp [putE]
  | cons e es ih =>
    obtain ⟨k, y⟩ := e
    unfold putE
    by_cases hk : k = q
    · rw [if_pos hk]; simp
    · rw [if_neg hk]; simp only [List.length_cons]; omega
theorem mem_put {es : List (Nat × α)} {q : Nat} {x : α} {e : Nat × α} (h : e ∈ putE es q x) : e ∈ es ∨ e = (q, x) := by
  induction es with
  | nil => exact .inr (by simpa [putE] using h)
  | cons c es ih =>
    obtain ⟨k, y⟩ := c
    unfold putE at h
    by_cases hk : k = q
    · rw [if_pos hk] at h
      rcases List.mem_cons.1 h with h | h
      · exact .inr h
      · exact .inl (List.mem_cons_of_mem _ h)
    · rw [if_neg hk] at h
      rcases List.mem_cons.1 h with h | h
      · exact .inl (by rw [h]; exact List.mem_cons_self)
      · exact (ih h).imp (List.mem_cons_of_mem _) id
theorem look_mem {es : List (Nat × α)} {q : Nat} {x : α} (h : lookE es q = some x) : (q, x) ∈ es := by
  induction es with
  | nil => cases h
  | cons c es ih =>
    obtain ⟨k, y⟩ := c
    unfold lookE at h
    by_cases hk : k = q
    · rw [if_pos hk] at h; cases h; rw [hk]; exact List.mem_cons_self
    · rw [if_neg hk] at h; exact List.mem_cons_of_mem _ (ih h)
def eEnt (enc : α → Value) (p : Nat) (x : α) (j : Nat) : MapEntry := { key := .int .i64 p, val := enc x, born := j }
def eList (enc : α → Value) : List (Nat × α) → Nat → List MapEntry
  | [], _ => []
  | (k, x) :: r, j => eEnt enc k x j :: eList enc r (j + 1)
theorem eList_len (enc : α → Value) : ∀ (es : List (Nat × α)) (j : Nat), (eList enc es j).length = es.length
  | [], _ => rfl
  | (k, x) :: r, j => by simp [eList, eList_len enc r]
theorem findNow_e (enc : α → Value) (p : Nat) : ∀ (es : List (Nat × α)) (j i : Nat), Instr.findNow (.int .i64) (.int .i64 p) (eList enc es j) i = some ((idxE es p).map fun t => (i + t.1, enc t.2))
  | [], _, _ => rfl
  | (k, x) :: r, j, i => by
    unfold eList idxE
    by_cases hk : k = p
    · subst hk
      have hs : Instr.sameNow (.int .i64) (.int .i64 (k : Nat)) (eEnt enc k x j).key = some true := by simp [eEnt, Instr.sameNow]
      unfold Instr.findNow
      rw [hs, if_pos rfl]
      simp [eEnt]
    · have hs : Instr.sameNow (.int .i64) (.int .i64 (p : Nat)) (eEnt enc k x j).key = some false := by
        simp only [eEnt, Instr.sameNow, if_true]
        rw [Option.some.injEq, beq_eq_false_iff_ne]
        omega
      unfold Instr.findNow
      rw [hs, if_neg hk]
      have h := findNow_e enc p r (j + 1) (i + 1)
      simp only [h]
      cases idxE r p with
      | none => rfl
      | some t => simp; omega
theorem putE_none (enc : α → Value) {es : List (Nat × α)} {p : Nat} (x : α) (h : idxE es p = none) : ∀ j, (eList enc (putE es p x) j).toArray = (eList enc es j).toArray.push (eEnt enc p x (j + es.length)) ∧ (putE es p x).length = es.length + 1 := by
  induction es with
  | nil => intro j; simp [putE, eList]
  | cons e es ih =>
    obtain ⟨k, y⟩ := e
    intro j
    unfold idxE at h
    by_cases hk : k = p
    · rw [if_pos hk] at h; cases h
    · rw [if_neg hk] at h
      have h1 := ih (by cases hi : idxE es p with | none => rfl | some t => rw [hi] at h; cases h) (j + 1)
      unfold putE
      rw [if_neg hk]
      refine ⟨?_, by simp [h1.2]⟩
      apply Array.toList_inj.1
      have h2 := congrArg Array.toList h1.1
      simp only [Array.toList_push] at h2 ⊢
      simp only [eList, List.cons_append, h2, List.length_cons]
      rw [show j + 1 + es.length = j + (es.length + 1) by omega]
theorem putE_some (enc : α → Value) {es : List (Nat × α)} {p : Nat} (x : α) {t : Nat × α} (h : idxE es p = some t) : ∀ j, (eList enc (putE es p x) j).toArray = (eList enc es j).toArray.modify t.1 (fun e => { e with key := .int .i64 p, val := enc x }) ∧ (putE es p x).length = es.length ∧ (((eList enc es j).toArray[t.1]?).map (·.key)).getD (.int .i64 p) = .int .i64 p := by
  induction es generalizing t with
  | nil => cases h
  | cons e es ih =>
    obtain ⟨k, y⟩ := e
    intro j
    unfold idxE at h
    by_cases hk : k = p
    · rw [if_pos hk] at h
      cases h
      unfold putE
      rw [if_pos hk]
      subst hk
      refine ⟨?_, by simp, by simp [eList, eEnt]⟩
      apply Array.toList_inj.1
      simp [eList, eEnt]
    · rw [if_neg hk] at h
      obtain ⟨u, hu, rfl⟩ := Option.map_eq_some_iff.1 h
      have h1 := ih hu (j + 1)
      unfold putE
      rw [if_neg hk]
      refine ⟨?_, by simp [h1.2.1], ?_⟩
      · apply Array.toList_inj.1
        have h2 := congrArg Array.toList h1.1
        simp at h2 ⊢
        simp [eList, h2]
      · have h3 := h1.2.2
        simpa [eList] using h3
/-- Block b is the map of these. -/
def EAt (w : World) (b : Nat) (enc : α → Value) (es : List (Nat × α)) : Prop := w.heap[b]? = some (.map (eList enc es 0).toArray es.length)
variable {enc : α → Value} {es : List (Nat × α)}
theorem EAt.lt {w : World} {b : Nat} (h : EAt w b enc es) : b < w.heap.size := (Array.getElem?_eq_some_iff.1 h).1
theorem EAt.only {p : Nat → Prop} {w w' : World} {b : Nat} (h : EAt w b enc es) (hp : ¬ p b) (ho : Only p w w') : EAt w' b enc es := (ho.block b h.lt hp).trans h
theorem EAt.on {w w' : World} {b : Nat} (h : EAt w b enc es) (hb : Below w.heap.size w w') : EAt w' b enc es := (hb.block b h.lt).trans h
theorem EAt.alloc {w : World} {b : Nat} (h : EAt w b enc es) (o : Obj) : EAt (w.alloc o) b enc es := h.on ((Below.refl _ _).alloc (Nat.le_refl _) o)
theorem eAt_new (enc : α → Value) (w : World) : EAt (w.alloc (.map #[] 0)) w.heap.size enc [] := heap_alloc_last w _
def setE (w : World) (b : Nat) (enc : α → Value) (es : List (Nat × α)) : World := { w with heap := w.heap.setIfInBounds b (.map (eList enc es 0).toArray es.length) }
theorem setE_at {w : World} {b : Nat} (hb : b < w.heap.size) (enc : α → Value) (es : List (Nat × α)) : EAt (setE w b enc es) b enc es := by
  unfold EAt setE
  simp [hb]
theorem setE_only (w : World) (b : Nat) (enc : α → Value) (es : List (Nat × α)) : Only (fun g => g = b) w (setE w b enc es) :=
  ⟨rfl, rfl, rfl, by simp [setE], fun k hk hne => by unfold setE; simp only; rw [Array.getElem?_setIfInBounds_ne (fun e => hne e.symm)]⟩
end
def encI : Int → Value := Value.int .i64
def encB : Bool → Value := Value.bool
theorem run_look_i {w : World} {b : Nat} {es : List (Nat × Int)} (h : EAt w b encI es) (p : Nat) :
    (Instr.lookup 130 (.map (some b)) (.int .i64 p) true).run Tryz.prog w = .ok (.tuple #[encI ((lookE es p).getD 0), .bool (lookE es p).isSome]) w := by
  have hj := findNow_e encI p es 0 0
  have hk := check_int p w
  have hz : (zeroValue 3).run Tryz.prog w = .ok (encI 0) w := by kernel_rfl
  rw [lookE_idx]
  cases hi : idxE es p with
  | none =>
    rw [hi] at hj
    simp at hj
    simp [Instr.lookup, run_underlying Tryz.underlying130, run_underlying Tryz.underlying3, Go.MapKept.run_getObj_map h, hk, Instr.findKey, Result.andThen, hj, hz]
  | some t =>
    rw [hi] at hj
    simp at hj
    simp [Instr.lookup, run_underlying Tryz.underlying130, run_underlying Tryz.underlying3, Go.MapKept.run_getObj_map h, hk, Instr.findKey, Result.andThen, hj]
theorem run_get_i {w : World} {b : Nat} {es : List (Nat × Int)} (h : EAt w b encI es) (p : Nat) :
    (Instr.lookup 130 (.map (some b)) (.int .i64 p) false).run Tryz.prog w = .ok (encI ((lookE es p).getD 0)) w := by
  have hj := findNow_e encI p es 0 0
  have hk := check_int p w
  have hz : (zeroValue 3).run Tryz.prog w = .ok (encI 0) w := by kernel_rfl
  rw [lookE_idx]
  cases hi : idxE es p with
  | none =>
    rw [hi] at hj
    simp at hj
    simp [Instr.lookup, run_underlying Tryz.underlying130, run_underlying Tryz.underlying3, Go.MapKept.run_getObj_map h, hk, Instr.findKey, Result.andThen, hj, hz]
  | some t =>
    rw [hi] at hj
    simp at hj
    simp [Instr.lookup, run_underlying Tryz.underlying130, run_underlying Tryz.underlying3, Go.MapKept.run_getObj_map h, hk, Instr.findKey, Result.andThen, hj]
theorem run_put_i {w : World} {b : Nat} {es : List (Nat × Int)} (h : EAt w b encI es) (p : Nat) (x : Int) :
    (Instr.mapUpdate 130 (.map (some b)) (.int .i64 p) (encI x)).run Tryz.prog w = .ok () (setE w b encI (putE es p x)) := by
  have hj := findNow_e encI p es 0 0
  have hk := check_int p w
  unfold setE
  cases hi : idxE es p with
  | none =>
    obtain ⟨h1, h2⟩ := putE_none encI x hi 0
    rw [h1, h2]
    rw [hi] at hj
    simp at hj
    simp [Instr.mapUpdate, run_underlying Tryz.underlying130, run_underlying Tryz.underlying3, Go.MapKept.run_getObj_map h, hk, Instr.findKey, Result.andThen, hj, Go.MapKept.run_setObj_map _ h, eEnt]
  | some t =>
    obtain ⟨h1, h2, h3⟩ := putE_some encI x hi 0
    rw [h1, h2]
    rw [hi] at hj
    simp at hj
    have hks : (Instr.keyThatStays (.int .i64 p) (.int .i64 p)).run Tryz.prog w = .ok (.int .i64 p) w := by
      unfold Instr.keyThatStays
      simp [Instr.sameBits]
    simp only [List.getElem?_toArray] at h3
    simp [Instr.mapUpdate, run_underlying Tryz.underlying130, run_underlying Tryz.underlying3, Go.MapKept.run_getObj_map h, hk, Instr.findKey, Result.andThen, hj]
    rw [h3, hks]
    simp [Go.MapKept.run_setObj_map _ h]
theorem run_look_b {w : World} {b : Nat} {es : List (Nat × Bool)} (h : EAt w b encB es) (p : Nat) :
    (Instr.lookup 121 (.map (some b)) (.int .i64 p) true).run Tryz.prog w = .ok (.tuple #[encB ((lookE es p).getD false), .bool (lookE es p).isSome]) w := by
  have hj := findNow_e encB p es 0 0
  have hk := check_int p w
  have hz : (zeroValue 4).run Tryz.prog w = .ok (encB false) w := by kernel_rfl
  rw [lookE_idx]
  cases hi : idxE es p with
  | none =>
    rw [hi] at hj
    simp at hj
    simp [Instr.lookup, run_underlying Tryz.underlying121, run_underlying Tryz.underlying3, Go.MapKept.run_getObj_map h, hk, Instr.findKey, Result.andThen, hj, hz]
  | some t =>
    rw [hi] at hj
    simp at hj
    simp [Instr.lookup, run_underlying Tryz.underlying121, run_underlying Tryz.underlying3, Go.MapKept.run_getObj_map h, hk, Instr.findKey, Result.andThen, hj]
theorem run_get_b {w : World} {b : Nat} {es : List (Nat × Bool)} (h : EAt w b encB es) (p : Nat) :
    (Instr.lookup 121 (.map (some b)) (.int .i64 p) false).run Tryz.prog w = .ok (encB ((lookE es p).getD false)) w := by
  have hj := findNow_e encB p es 0 0
  have hk := check_int p w
  have hz : (zeroValue 4).run Tryz.prog w = .ok (encB false) w := by kernel_rfl
  rw [lookE_idx]
  cases hi : idxE es p with
  | none =>
    rw [hi] at hj
    simp at hj
    simp [Instr.lookup, run_underlying Tryz.underlying121, run_underlying Tryz.underlying3, Go.MapKept.run_getObj_map h, hk, Instr.findKey, Result.andThen, hj, hz]
  | some t =>
    rw [hi] at hj
    simp at hj
    simp [Instr.lookup, run_underlying Tryz.underlying121, run_underlying Tryz.underlying3, Go.MapKept.run_getObj_map h, hk, Instr.findKey, Result.andThen, hj]
theorem run_put_b {w : World} {b : Nat} {es : List (Nat × Bool)} (h : EAt w b encB es) (p : Nat) (x : Bool) :
    (Instr.mapUpdate 121 (.map (some b)) (.int .i64 p) (encB x)).run Tryz.prog w = .ok () (setE w b encB (putE es p x)) := by
  have hj := findNow_e encB p es 0 0
  have hk := check_int p w
  unfold setE
  cases hi : idxE es p with
  | none =>
    obtain ⟨h1, h2⟩ := putE_none encB x hi 0
    rw [h1, h2]
    rw [hi] at hj
    simp at hj
    simp [Instr.mapUpdate, run_underlying Tryz.underlying121, run_underlying Tryz.underlying3, Go.MapKept.run_getObj_map h, hk, Instr.findKey, Result.andThen, hj, Go.MapKept.run_setObj_map _ h, eEnt]
  | some t =>
    obtain ⟨h1, h2, h3⟩ := putE_some encB x hi 0
    rw [h1, h2]
    rw [hi] at hj
    simp at hj
    have hks : (Instr.keyThatStays (.int .i64 p) (.int .i64 p)).run Tryz.prog w = .ok (.int .i64 p) w := by
      unfold Instr.keyThatStays
      simp [Instr.sameBits]
    simp only [List.getElem?_toArray] at h3
    simp [Instr.mapUpdate, run_underlying Tryz.underlying121, run_underlying Tryz.underlying3, Go.MapKept.run_getObj_map h, hk, Instr.findKey, Result.andThen, hj]
    rw [h3, hks]
    simp [Go.MapKept.run_setObj_map _ h]
end Go.Proofs.YtihhpgklpichgaaGreat.Wk
/- Blocks plainly: where they begin. No program is spoken of here. -/
namespace Go.Proofs.YtihhpgklpichgaaGreat.Wk
open Go.RowKit Pl Ft Mm In C2 Im Sw Gp

/-- An instruction behind which one goes on, and nowhere else; a jump or a table. -/
def aloneI (i : IIns) : Bool := !(decide (i.op = 0 ∨ i.op = 1 ∨ i.op = 27 ∨ i.op = 28 ∨ i.op = 30))
def turnI (i : IIns) : Bool := decide (i.op = 27 ∨ i.op = 28 ∨ i.op = 30)
def BegP (code : List Int) (P : List Nat) (q : Nat) : Prop :=
  (∃ p ∈ P, ∃ i, readP code p = some i ∧ turnI i = true ∧ (q : Int) ∈ Gm code false p) ∨ ∃ p ∈ P, ∃ p' ∈ P, p ≠ p' ∧ (q : Int) ∈ Gm code false p ∧ (q : Int) ∈ Gm code false p'
theorem gm_alone {code : List Int} {p : Nat} {i : IIns} (h : readP code p = some i) (ha : aloneI i = true) : Gm code false p = [(p : Int) + slong i] := by
  unfold Gm
  rw [h]
  simp only [aloneI, Bool.not_eq_true', decide_eq_false_iff_not, not_or] at ha
  unfold nextsP
  simp only
  rw [if_neg (by omega), if_neg (by omega), if_neg (by omega), if_neg (by omega)]
  simp
theorem gm_stop {code : List Int} {p : Nat} {i : IIns} (h : readP code p = some i) (ha : aloneI i = false) (ht : turnI i = false) : Gm code false p = [] := by
  unfold Gm
  rw [h]
  simp only [aloneI, Bool.not_eq_false', decide_eq_true_eq] at ha
  simp only [turnI, decide_eq_false_iff_not, not_or] at ht
  unfold nextsP
  simp only
  rw [if_pos (by omega)]
  simp
theorem turn_alone {i : IIns} (h : aloneI i = true) : turnI i = false := by
  simp only [aloneI, Bool.not_eq_true', decide_eq_false_iff_not, not_or] at h
  simp only [turnI, decide_eq_false_iff_not]
  omega
theorem begP_snoc {code : List Int} {P : List Nat} {p q : Nat} {i : IIns} (hn : p ∉ P) (hi : readP code p = some i) : BegP code (P ++ [p]) q ↔ BegP code P q ∨ ((q : Int) ∈ Gm code false p ∧ (turnI i = true ∨ ∃ p' ∈ P, (q : Int) ∈ Gm code false p')) := by
  constructor
  · rintro (⟨x, hx, j, hj, ht, hq⟩ | ⟨x, hx, y, hy, hne, hqx, hqy⟩)
    · rcases List.mem_append.1 hx with h | h
      · exact .inl (.inl ⟨x, h, j, hj, ht, hq⟩)
      · obtain rfl : x = p := by simpa using h
        rw [hi] at hj
        cases hj
        exact .inr ⟨hq, .inl ht⟩
    · rcases List.mem_append.1 hx with h | h
      · rcases List.mem_append.1 hy with h' | h'
        · exact .inl (.inr ⟨x, h, y, h', hne, hqx, hqy⟩)
        · obtain rfl : y = p := by simpa using h'
          exact .inr ⟨hqy, .inr ⟨x, h, hqx⟩⟩
      · obtain rfl : x = p := by simpa using h
        rcases List.mem_append.1 hy with h' | h'
        · exact .inr ⟨hqx, .inr ⟨y, h', hqy⟩⟩
        · obtain rfl : y = x := by simpa using h'
          exact absurd rfl hne
  · rintro (h | ⟨hq, ht | ⟨x, hx, hqx⟩⟩)
    · rcases h with ⟨x, hx, j, hj, ht, hq⟩ | ⟨x, hx, y, hy, hne, hqx, hqy⟩
      · exact .inl ⟨x, by simp [hx], j, hj, ht, hq⟩
      · exact .inr ⟨x, by simp [hx], y, by simp [hy], hne, hqx, hqy⟩
    · exact .inl ⟨p, by simp, i, hi, ht, hq⟩
    · exact .inr ⟨x, by simp [hx], p, by simp, fun e => hn (e ▸ hx), hqx, hq⟩
/-- What is held of where blocks begin: places to which one came, and places at which one begins. -/
def gb (es : List (Nat × Bool)) (q : Nat) : Bool := (lookE es q).getD false
theorem gb_put (es : List (Nat × Bool)) (q r : Nat) (b : Bool) : gb (putE es q b) r = if r = q then b else gb es r := by
  unfold gb
  rw [look_put]
  by_cases h : r = q
  · rw [if_pos h, if_pos h]; rfl
  · rw [if_neg h, if_neg h]
def stepB (al : Bool) (s : List (Nat × Bool) × List (Nat × Bool)) (q : Nat) : List (Nat × Bool) × List (Nat × Bool) := (putE s.1 q true, putE s.2 q (gb s.2 q || (gb s.1 q || !al)))
def visitB (code : List Int) (s : List (Nat × Bool) × List (Nat × Bool)) (p : Nat) : List (Nat × Bool) × List (Nat × Bool) :=
  match readP code p with
  | none => s
  | some i => (toL (Gm code false) p).foldl (stepB (aloneI i)) s
theorem foldB_met (al : Bool) (q : Nat) : ∀ (qs : List Nat) (s : List (Nat × Bool) × List (Nat × Bool)), gb (qs.foldl (stepB al) s).1 q = true ↔ gb s.1 q = true ∨ q ∈ qs
  | [], s => by simp
  | x :: qs, s => by
    rw [List.foldl_cons, foldB_met al q qs]
    unfold stepB
    simp only
    rw [gb_put]
    by_cases h : q = x
    · subst h; simp
    · rw [if_neg h]; simp [h]
theorem foldB_turn (q : Nat) : ∀ (qs : List Nat) (s : List (Nat × Bool) × List (Nat × Bool)), gb (qs.foldl (stepB false) s).2 q = true ↔ gb s.2 q = true ∨ q ∈ qs
  | [], s => by simp
  | x :: qs, s => by
    rw [List.foldl_cons, foldB_turn q qs]
    unfold stepB
    simp only
    rw [gb_put]
    by_cases h : q = x
    · subst h; simp
    · rw [if_neg h]; simp [h]
structure BInv (code : List Int) (P : List Nat) (s : List (Nat × Bool) × List (Nat × Bool)) : Prop where
  met : ∀ q, gb s.1 q = true ↔ ∃ p ∈ P, (q : Int) ∈ Gm code false p
  beg : ∀ q, gb s.2 q = true ↔ BegP code P q
theorem BInv.nil (code : List Int) : BInv code [] ([], []) where
  met q := by simp [gb, lookE]
  beg q := by simp [gb, lookE, BegP]
theorem BInv.visit {code : List Int} {P : List Nat} {s : List (Nat × Bool) × List (Nat × Bool)} (h : BInv code P s) {p : Nat} (hn : p ∉ P) (hp : (readP code p).isSome = true) (hnn : ∀ q ∈ Gm code false p, 0 ≤ q) : BInv code (P ++ [p]) (visitB code s p) := by
  obtain ⟨i, hi⟩ := Option.isSome_iff_exists.1 hp
  have hmem : ∀ q : Nat, q ∈ toL (Gm code false) p ↔ (q : Int) ∈ Gm code false p := fun q => by
    constructor
    · intro hq
      obtain ⟨x, hx, rfl⟩ := List.mem_map.1 hq
      have := hnn x hx
      rwa [show ((x.toNat : Nat) : Int) = x by omega]
    · exact fun hq => List.mem_map.2 ⟨_, hq, by simp⟩
  unfold visitB
  rw [hi]
  simp only
  refine ⟨fun q => ?_, fun q => ?_⟩
  · rw [foldB_met, h.met, hmem]
    constructor
    · rintro (⟨x, hx, hq⟩ | hq)
      · exact ⟨x, by simp [hx], hq⟩
      · exact ⟨p, by simp, hq⟩
    · rintro ⟨x, hx, hq⟩
      rcases List.mem_append.1 hx with h1 | h1
      · exact .inl ⟨x, h1, hq⟩
      · obtain rfl : x = p := by simpa using h1
        exact .inr hq
  · rw [begP_snoc hn hi, ← h.beg q]
    cases ha : aloneI i with
    | false =>
      rw [foldB_turn, hmem]
      cases ht : turnI i with
      | false => rw [gm_stop hi ha ht]; simp
      | true => simp
    | true =>
      have hg := gm_alone hi ha
      have hl : toL (Gm code false) p = [((p : Int) + slong i).toNat] := by unfold toL; rw [hg]; rfl
      have hx : 0 ≤ (p : Int) + slong i := hnn _ (by rw [hg]; simp)
      rw [hl, hg]
      simp only [List.foldl_cons, List.foldl_nil, stepB]
      rw [gb_put]
      by_cases e : q = ((p : Int) + slong i).toNat
      · rw [if_pos e]
        have e2 : (q : Int) = (p : Int) + slong i := by omega
        have h3 : (∃ p' ∈ P, (q : Int) ∈ Gm code false p') ↔ gb s.1 q = true := (h.met q).symm
        rw [h3, turn_alone ha, ← e]
        simp [e2]
      · rw [if_neg e]
        have e2 : ¬ (q : Int) = (p : Int) + slong i := by omega
        simp [e2]
theorem foldB_inv {code : List Int} : ∀ (R P : List Nat) (s : List (Nat × Bool) × List (Nat × Bool)), BInv code P s → (P ++ R).Nodup → (∀ p ∈ R, (readP code p).isSome = true ∧ ∀ q ∈ Gm code false p, 0 ≤ q) → BInv code (P ++ R) (R.foldl (visitB code) s)
  | [], P, s, h, _, _ => by simpa using h
  | p :: R, P, s, h, hn, hr => by
    rw [show P ++ p :: R = (P ++ [p]) ++ R by simp] at hn ⊢
    rw [List.foldl_cons]
    refine foldB_inv R (P ++ [p]) _ (h.visit ?_ (hr p (by simp)).1 (hr p (by simp)).2) hn (fun x hx => hr x (by simp [hx]))
    have := (List.nodup_append.1 hn).1
    rw [List.nodup_append] at this
    exact fun hp => this.2.2 p hp p (by simp) rfl
/-- The places of a function, and where its blocks begin, its own place first. -/
noncomputable def placesN (code : List Int) (a : Nat) : List Nat := (reachL code [(a : Int)] false).map Int.toNat
noncomputable def begB (code : List Int) (a : Nat) (x : Int) : Bool := pdec (BegP code (placesN code a) x.toNat) && !decide (x = (a : Int))
noncomputable def leadL (code : List Int) (a : Nat) : List Int := (a : Int) :: (reachL code [(a : Int)] false).filter (begB code a)
section
variable {code : List Int} {a : Nat}
/-- Where one goes on alone behind an instruction. -/
def nextN (code : List Int) (p : Nat) : Option Nat := match readP code p with | none => none | some i => if aloneI i = true then some ((p : Int) + slong i).toNat else none
def chainAt (code : List Int) (isB : Nat → Bool) (f : Nat) : Nat → Option Nat
  | 0 => some f
  | k + 1 => match chainAt code isB f k with
    | none => none
    | some p => match nextN code p with
      | none => none
      | some q => if isB q = true then none else some q
def lastF (code : List Int) (isB : Nat → Bool) : Nat → Nat → Nat
  | 0, p => p
  | n + 1, p => match nextN code p with
    | none => p
    | some q => if isB q = true then p else lastF code isB n q
theorem chain_succ {isB : Nat → Bool} {f k q : Nat} (h : chainAt code isB f (k + 1) = some q) : ∃ p, chainAt code isB f k = some p ∧ nextN code p = some q ∧ isB q = false := by
  unfold chainAt at h
  cases hp : chainAt code isB f k with
  | none => rw [hp] at h; cases h
  | some p =>
    rw [hp] at h
    simp only at h
    cases hq : nextN code p with
    | none => rw [hq] at h; cases h
    | some r =>
      rw [hq] at h
      simp only at h
      cases hb : isB r with
      | true => rw [hb, if_pos rfl] at h; cases h
      | false =>
        rw [hb, if_neg (by decide)] at h
        cases h
        exact ⟨p, rfl, hq, hb⟩
theorem chain_last {isB : Nat → Bool} {f : Nat} : ∀ (k n p : Nat), chainAt code isB f k = some p → lastF code isB (k + n) f = lastF code isB n p
  | 0, n, p, h => by cases h; rw [Nat.zero_add]
  | k + 1, n, q, h => by
    obtain ⟨p, hp, hq, hb⟩ := chain_succ h
    rw [show k + 1 + n = k + (n + 1) by omega, chain_last k (n + 1) p hp, lastF, hq]
    simp only
    rw [hb, if_neg (by decide)]
theorem chain_end {isB : Nat → Bool} {f k p : Nat} (h : chainAt code isB f k = some p) (he : chainAt code isB f (k + 1) = none) : ∀ n, lastF code isB n p = p
  | 0 => rfl
  | n + 1 => by
    unfold chainAt at he
    rw [h] at he
    simp only at he
    rw [lastF]
    cases hq : nextN code p with
    | none => rfl
    | some q =>
      rw [hq] at he
      simp only at he ⊢
      cases hb : isB q with
      | true => rw [if_pos rfl]
      | false => rw [hb, if_neg (by decide)] at he; cases he
noncomputable def isLead (code : List Int) (a q : Nat) : Bool := @decide ((q : Int) ∈ leadL code a) (Classical.propDecidable _)
theorem isLead_iff {q : Nat} : isLead code a q = true ↔ (q : Int) ∈ leadL code a := by
  unfold isLead
  exact @decide_eq_true_iff _ (Classical.propDecidable _)
/-- What is asked of a function: that the image is sound where it leads. -/
structure Snd (code : List Int) (a : Nat) : Prop where
  rd : ∀ p, Rc (Gm code false) [(a : Int)] p → (readP code p).isSome = true
  nn : ∀ p, ∀ q ∈ Gm code false p, 0 ≤ q
theorem mem_rl {x : Int} : x ∈ reachL code [(a : Int)] false ↔ ∃ p : Nat, x = (p : Int) ∧ Rc (Gm code false) [(a : Int)] p ∧ (readP code p).isSome = true := by
  unfold reachL truesL
  rw [List.mem_map]
  constructor
  · rintro ⟨p, hp, rfl⟩
    have := (List.mem_filter.1 hp).2
    unfold pdec at this
    exact ⟨p, rfl, @of_decide_eq_true _ (Classical.propDecidable _) this⟩
  · rintro ⟨p, rfl, h⟩
    refine ⟨p, List.mem_filter.2 ⟨?_, pdec_yes h⟩, rfl⟩
    obtain ⟨i, hi⟩ := Option.isSome_iff_exists.1 h.2
    exact List.mem_range.2 (readP_facts hi).1
theorem mem_places (hS : Snd code a) {p : Nat} : p ∈ placesN code a ↔ Rc (Gm code false) [(a : Int)] p := by
  unfold placesN
  rw [List.mem_map]
  constructor
  · rintro ⟨x, hx, rfl⟩
    obtain ⟨q, rfl, h, _⟩ := mem_rl.1 hx
    simpa using h
  · exact fun h => ⟨(p : Int), mem_rl.2 ⟨p, rfl, h, hS.rd p h⟩, by simp⟩
theorem lead_of (hS : Snd code a) {q : Nat} (hq : Rc (Gm code false) [(a : Int)] q) (hb : BegP code (placesN code a) q) : (q : Int) ∈ leadL code a := by
  unfold leadL
  by_cases e : q = a
  · subst e; simp
  · refine List.mem_cons_of_mem _ (List.mem_filter.2 ⟨mem_rl.2 ⟨q, rfl, hq, hS.rd q hq⟩, ?_⟩)
    unfold begB
    rw [Int.toNat_natCast, pdec_yes hb]
    simp
    omega
theorem lead_mem {x : Int} (hx : x ∈ leadL code a) : x = (a : Int) ∨ (x ∈ reachL code [(a : Int)] false ∧ BegP code (placesN code a) x.toNat) := by
  unfold leadL at hx
  rcases List.mem_cons.1 hx with h | h
  · exact .inl h
  · obtain ⟨h1, h2⟩ := List.mem_filter.1 h
    unfold begB at h2
    refine .inr ⟨h1, ?_⟩
    have := (Bool.and_eq_true_iff.1 h2).1
    unfold pdec at this
    exact @of_decide_eq_true _ (Classical.propDecidable _) this
theorem lead_rc (hS : Snd code a) {x : Int} (hx : x ∈ leadL code a) : ∃ p : Nat, x = (p : Int) ∧ Rc (Gm code false) [(a : Int)] p := by
  rcases lead_mem hx with rfl | ⟨h, _⟩
  · exact ⟨a, rfl, .start _ (by simp)⟩
  · obtain ⟨p, rfl, h, _⟩ := mem_rl.1 h
    exact ⟨p, rfl, h⟩
theorem next_gm (hS : Snd code a) {p q : Nat} (h : nextN code p = some q) : (q : Int) ∈ Gm code false p ∧ ∃ i, readP code p = some i ∧ aloneI i = true := by
  unfold nextN at h
  cases hi : readP code p with
  | none => rw [hi] at h; cases h
  | some i =>
    rw [hi] at h
    simp only at h
    cases ha : aloneI i with
    | false => rw [ha, if_neg (by decide)] at h; cases h
    | true =>
      rw [ha, if_pos rfl] at h
      cases h
      have hg := gm_alone hi ha
      have := hS.nn p ((p : Int) + slong i) (by rw [hg]; simp)
      refine ⟨?_, i, rfl, ha⟩
      rw [hg]
      simp
      omega
theorem chain_rc (hS : Snd code a) {f : Nat} (hf : Rc (Gm code false) [(a : Int)] f) : ∀ (k p : Nat), chainAt code (isLead code a) f k = some p → Rc (Gm code false) [(a : Int)] p
  | 0, p, h => by cases h; exact hf
  | k + 1, q, h => by
    obtain ⟨p, hp, hq, _⟩ := chain_succ h
    exact .step p q (chain_rc hS hf k p hp) (next_gm hS hq).1
theorem chain_inj (hS : Snd code a) {f : Nat} (hf : (f : Int) ∈ leadL code a) : ∀ (i j q : Nat), i < j → chainAt code (isLead code a) f i = some q → chainAt code (isLead code a) f j = some q → False
  | 0, j + 1, q, _, hi, hj => by
    cases hi
    obtain ⟨p, _, _, hb⟩ := chain_succ hj
    rw [isLead_iff.2 hf] at hb
    cases hb
  | i + 1, j + 1, q, hij, hi, hj => by
    have hfr : Rc (Gm code false) [(a : Int)] f := by
      obtain ⟨p, e, h⟩ := lead_rc hS hf
      obtain rfl : f = p := by omega
      exact h
    obtain ⟨p, hp, hpq, hb⟩ := chain_succ hi
    obtain ⟨r, hr, hrq, _⟩ := chain_succ hj
    by_cases e : p = r
    · subst e
      exact chain_inj hS hf i j p (by omega) hp hr
    · have hpr := chain_rc hS hfr i p hp
      have hrr := chain_rc hS hfr j r hr
      have h1 : BegP code (placesN code a) q := .inr ⟨p, (mem_places hS).2 hpr, r, (mem_places hS).2 hrr, e, (next_gm hS hpq).1, (next_gm hS hrq).1⟩
      have h2 := lead_of hS (.step p q hpr (next_gm hS hpq).1) h1
      rw [isLead_iff.2 h2] at hb
      cases hb
theorem chain_bd (hS : Snd code a) {f k p : Nat} (hf : (f : Int) ∈ leadL code a) (h : chainAt code (isLead code a) f k = some p) : k < code.length := by
  have hfr : Rc (Gm code false) [(a : Int)] f := by
    obtain ⟨p, e, h⟩ := lead_rc hS hf
    obtain rfl : f = p := by omega
    exact h
  have hall : ∀ j, j ≤ k → ∃ q, chainAt code (isLead code a) f j = some q := by
    intro j
    induction k generalizing p with
    | zero =>
      intro hj
      obtain rfl : j = 0 := by omega
      exact ⟨p, h⟩
    | succ k ih =>
      intro hj
      by_cases e : j = k + 1
      · subst e; exact ⟨p, h⟩
      · obtain ⟨r, hr, _⟩ := chain_succ h
        exact ih hr (by omega)
  let l := (List.range (k + 1)).map fun j => (chainAt code (isLead code a) f j).getD 0
  have hl : l.length = k + 1 := by simp [l]
  have hnd : l.Nodup := by
    rw [List.nodup_iff_pairwise_ne]
    refine List.pairwise_map.2 ?_
    refine List.Pairwise.imp_of_mem ?_ (List.pairwise_lt_range (n := k + 1))
    intro i j hi hj hij e
    obtain ⟨q, hq⟩ := hall i (by have := List.mem_range.1 hi; omega)
    obtain ⟨r, hr⟩ := hall j (by have := List.mem_range.1 hj; omega)
    rw [hq, hr] at e
    simp only [Option.getD_some] at e
    subst e
    exact chain_inj hS hf i j q hij hq hr
  have hlt : ∀ x ∈ l, x < code.length := fun x hx => by
    obtain ⟨j, hj, rfl⟩ := List.mem_map.1 hx
    obtain ⟨q, hq⟩ := hall j (by have := List.mem_range.1 hj; omega)
    rw [hq]
    have := chain_rc hS hfr j q hq
    obtain ⟨i, hi⟩ := Option.isSome_iff_exists.1 (hS.rd q this)
    exact (readP_facts hi).1
  have := nodup_le code.length l hnd hlt
  omega
noncomputable def posC (code : List Int) (a f p : Nat) : Nat := @dite _ (∃ k, chainAt code (isLead code a) f k = some p) (Classical.propDecidable _) (fun h => Classical.choose h) (fun _ => 0)
theorem posC_eq (hS : Snd code a) {f k p : Nat} (hf : (f : Int) ∈ leadL code a) (h : chainAt code (isLead code a) f k = some p) : posC code a f p = k := by
  have he : ∃ k, chainAt code (isLead code a) f k = some p := ⟨k, h⟩
  unfold posC
  rw [dif_pos he]
  have h2 := Classical.choose_spec he
  rcases Nat.lt_trichotomy (Classical.choose he) k with h3 | h3 | h3
  · exact (chain_inj hS hf _ _ p h3 h2 h).elim
  · exact h3
  · exact (chain_inj hS hf _ _ p h3 h h2).elim
/-- The place of the last instruction of a block. -/
noncomputable def lastP (code : List Int) (a f : Nat) : Nat := lastF code (isLead code a) code.length f
theorem last_eq (hS : Snd code a) {f k p : Nat} (hf : (f : Int) ∈ leadL code a) (h : chainAt code (isLead code a) f k = some p) (he : chainAt code (isLead code a) f (k + 1) = none) : lastP code a f = p := by
  have hk := chain_bd hS hf h
  unfold lastP
  rw [show code.length = k + (code.length - k) by omega, chain_last k _ p h]
  exact chain_end h he _
end
end Go.Proofs.YtihhpgklpichgaaGreat.Wk
/- Heights of the stack plainly: what the search of the program makes of them, and what they are. No program is spoken of here. -/
namespace Go.Proofs.YtihhpgklpichgaaGreat.Wk
open Go.RowKit Pl Ft Mm In C2 Im Sw Gp

/-- By how much an instruction makes the stack higher, and how much must be there. -/
def riseP (i : IIns) : Int := if i.op = 3 then 1 else if i.op = 4 then -1 else if i.op = 25 then i.n else if i.op = 26 then -i.n else 0
def needsP (i : IIns) : Int := if i.op = 4 then 1 else if i.op = 23 ∨ i.op = 24 then i.n + 1 else if i.op = 26 then i.n else 0
def mayP (i : IIns) (h : Int) : Bool := decide (needsP i ≤ h) && (decide (h + riseP i ≤ 40) && (!decide (i.op = 1) || decide (h = 0)))
/-- The stack may be so high ahead of a place. -/
inductive Hr (code : List Int) (a : Nat) : Nat → Int → Prop
  | start : Hr code a a 0
  | step (p q : Nat) (i : IIns) (h : Int) (hp : Hr code a p h) (hi : readP code p = some i) (hq : (q : Int) ∈ Gm code false p) : Hr code a q (h + riseP i)
def okH (code : List Int) (a : Nat) : Prop := ∀ p h, Hr code a p h → (∀ i, readP code p = some i → mayP i h = true) ∧ ∀ h', Hr code a p h' → h' = h
noncomputable def hgt (code : List Int) (a p : Nat) : Int := @dite _ (∃ x, Hr code a p x) (Classical.propDecidable _) (fun h => Classical.choose h) (fun _ => 0)
section
variable {code : List Int} {a : Nat}
theorem Hr.rc {p : Nat} {h : Int} (hr : Hr code a p h) : Rc (Gm code false) [(a : Int)] p := by
  induction hr with
  | start => exact .start _ (by simp)
  | step p q i h _ _ hq ih => exact .step p q ih hq
theorem rc_hr (hs : ∀ p, Rc (Gm code false) [(a : Int)] p → (readP code p).isSome = true) {p : Nat} (hr : Rc (Gm code false) [(a : Int)] p) : ∃ h, Hr code a p h := by
  induction hr with
  | start p h =>
    have h2 : (p : Int) = a := by simpa using h
    obtain rfl : p = a := by omega
    exact ⟨0, .start⟩
  | step p q hp hq ih =>
    obtain ⟨h, hh⟩ := ih
    obtain ⟨i, hi⟩ := Option.isSome_iff_exists.1 (hs p hp)
    exact ⟨_, .step p q i h hh hi hq⟩
theorem hgt_eq (hok : okH code a) {p : Nat} {h : Int} (hr : Hr code a p h) : hgt code a p = h := by
  have he : ∃ x, Hr code a p x := ⟨h, hr⟩
  unfold hgt
  rw [dif_pos he]
  exact (hok p h hr).2 _ (Classical.choose_spec he)
end
/-- What a search holds of heights: whether all was well, and the heights by places. -/
def agreeE (o : Option Int) (b : Int) : Bool := match o with | none => true | some h => decide (h = b)
def stepE (b : Int) (s : Bool × List (Nat × Int)) (q : Nat) : Bool × List (Nat × Int) := (s.1 && agreeE (lookE s.2 q) b, putE s.2 q b)
def visitE (code : List Int) (s : Bool × List (Nat × Int)) (p : Nat) : Bool × List (Nat × Int) :=
  match readP code p with
  | none => s
  | some i => (toL (Gm code false) p).foldl (stepE ((lookE s.2 p).getD 0 + riseP i)) (s.1 && mayP i ((lookE s.2 p).getD 0), s.2)
def heldE (code : List Int) (a : Nat) (ms : List Nat) : Bool × List (Nat × Int) := ms.foldl (visitE code) (true, [(a, 0)])
theorem heldE_push (code : List Int) (a : Nat) (ms : List Nat) (p : Nat) : heldE code a (ms ++ [p]) = visitE code (heldE code a ms) p := by simp [heldE]
section
variable {code : List Int} {a : Nat}
structure HOn (code : List Int) (a : Nat) (ms : List Nat) (es : List (Nat × Int)) : Prop where
  hr : ∀ p h, lookE es p = some h → Hr code a p h
  st : lookE es a = some 0
  cl : ∀ p ∈ ms, ∀ i, readP code p = some i → ∃ h, lookE es p = some h ∧ mayP i h = true ∧ ∀ q : Nat, (q : Int) ∈ Gm code false p → lookE es q = some (h + riseP i)
structure HInv (code : List Int) (a : Nat) (ms : List Nat) (s : Bool × List (Nat × Int)) : Prop where
  on : s.1 = true → HOn code a ms s.2
  off : s.1 = false → ¬ okH code a
theorem fold_no (b : Int) : ∀ (qs : List Nat) (s : Bool × List (Nat × Int)), s.1 = false → (qs.foldl (stepE b) s).1 = false
  | [], s, h => h
  | q :: qs, s, h => fold_no b qs _ (by simp [stepE, h])
theorem fold_step {p : Nat} {i : IIns} {h : Int} (hp : Hr code a p h) (hi : readP code p = some i) : ∀ (qs : List Nat) (s : Bool × List (Nat × Int)), (∀ q ∈ qs, (q : Int) ∈ Gm code false p) → s.1 = true → (∀ r x, lookE s.2 r = some x → Hr code a r x) →
    ((qs.foldl (stepE (h + riseP i)) s).1 = true → (∀ r x, lookE (qs.foldl (stepE (h + riseP i)) s).2 r = some x → Hr code a r x) ∧ (∀ r x, lookE s.2 r = some x → lookE (qs.foldl (stepE (h + riseP i)) s).2 r = some x) ∧ ∀ q ∈ qs, lookE (qs.foldl (stepE (h + riseP i)) s).2 q = some (h + riseP i)) ∧
    ((qs.foldl (stepE (h + riseP i)) s).1 = false → ¬ okH code a)
  | [], s, _, hs, ha => ⟨fun _ => ⟨ha, fun _ _ h => h, fun _ h => by cases h⟩, fun h => by rw [List.foldl_nil, hs] at h; cases h⟩
  | q :: qs, s, hq, hs, ha => by
    have hHq : Hr code a q (h + riseP i) := .step p q i h hp hi (hq q (by simp))
    rw [List.foldl_cons]
    by_cases hg : agreeE (lookE s.2 q) (h + riseP i) = true
    · have h1 : (stepE (h + riseP i) s q).1 = true := by simp [stepE, hs, hg]
      have hmono : ∀ r x, lookE s.2 r = some x → lookE (stepE (h + riseP i) s q).2 r = some x := fun r x hx => by
        unfold stepE
        simp only
        rw [look_put]
        by_cases hr : r = q
        · subst hr
          rw [hx] at hg
          simp only [agreeE, decide_eq_true_eq] at hg
          rw [if_pos rfl, hg]
        · rw [if_neg hr, hx]
      have h2 := fold_step hp hi qs (stepE (h + riseP i) s q) (fun x hx => hq x (by simp [hx])) h1 (fun r x hx => by
        unfold stepE at hx
        simp only at hx
        rw [look_put] at hx
        by_cases hr : r = q
        · subst hr
          rw [if_pos rfl] at hx
          cases hx
          exact hHq
        · rw [if_neg hr] at hx
          exact ha r x hx)
      refine ⟨fun hb => ?_, h2.2⟩
      obtain ⟨g1, g2, g3⟩ := h2.1 hb
      refine ⟨g1, fun r x hx => g2 r x (hmono r x hx), fun x hx => ?_⟩
      rcases List.mem_cons.1 hx with rfl | hx
      · refine g2 x _ ?_
        unfold stepE
        simp only
        rw [look_put, if_pos rfl]
      · exact g3 x hx
    · have h1 : (stepE (h + riseP i) s q).1 = false := by simp [stepE, hg]
      have h2 := fold_no (h + riseP i) qs _ h1
      refine ⟨fun hb => (by rw [h2] at hb; cases hb), fun _ hok => hg ?_⟩
      cases hl : lookE s.2 q with
      | none => rfl
      | some x => simp only [agreeE, decide_eq_true_eq]; exact ((hok q x (ha q x hl)).2 _ hHq).symm
theorem HInv.visit {ms : List Nat} {s : Bool × List (Nat × Int)} {p : Nat} (h : HInv code a ms s) (hms : ∀ u ∈ ms, (readP code u).isSome = true) (hf : p = a ∨ ∃ u ∈ ms, (p : Int) ∈ Gm code false u) (hp : (readP code p).isSome = true)
    (hnn : ∀ q ∈ Gm code false p, 0 ≤ q) : HInv code a (ms ++ [p]) (visitE code s p) := by
  obtain ⟨i, hi⟩ := Option.isSome_iff_exists.1 hp
  unfold visitE
  rw [hi]
  simp only
  have hmem : ∀ q ∈ toL (Gm code false) p, (q : Int) ∈ Gm code false p := fun q hq => by
    obtain ⟨x, hx, rfl⟩ := List.mem_map.1 hq
    have := hnn x hx
    rwa [show ((x.toNat : Nat) : Int) = x by omega]
  cases hs : s.1 with
  | false =>
    rw [Bool.false_and]
    have := fold_no ((lookE s.2 p).getD 0 + riseP i) (toL (Gm code false) p) (false, s.2) rfl
    exact ⟨fun hb => (by rw [this] at hb; cases hb), fun _ => h.off hs⟩
  | true =>
    have ho := h.on hs
    obtain ⟨x, hx⟩ : ∃ x, lookE s.2 p = some x := by
      rcases hf with rfl | ⟨u, hu, hpu⟩
      · exact ⟨0, ho.st⟩
      · obtain ⟨j, hj⟩ := Option.isSome_iff_exists.1 (hms u hu)
        obtain ⟨y, _, _, hy⟩ := ho.cl u hu j hj
        exact ⟨_, hy p hpu⟩
    rw [hx, Option.getD_some, Bool.true_and]
    have hHp := ho.hr p x hx
    cases hm : mayP i x with
    | false =>
      have := fold_no (x + riseP i) (toL (Gm code false) p) (false, s.2) rfl
      exact ⟨fun hb => (by rw [this] at hb; cases hb), fun _ hok => by have := (hok p x hHp).1 i hi; rw [hm] at this; cases this⟩
    | true =>
      have hF := fold_step hHp hi (toL (Gm code false) p) (true, s.2) hmem rfl ho.hr
      refine ⟨fun hb => ?_, hF.2⟩
      obtain ⟨g1, g2, g3⟩ := hF.1 hb
      refine ⟨g1, g2 a 0 ho.st, fun u hu j hj => ?_⟩
      rcases List.mem_append.1 hu with hu | hu
      · obtain ⟨y, h1, h2, h3⟩ := ho.cl u hu j hj
        exact ⟨y, g2 u y h1, h2, fun q hq => g2 q _ (h3 q hq)⟩
      · obtain rfl : u = p := by simpa using hu
        rw [hi] at hj
        cases hj
        exact ⟨x, g2 u x hx, hm, fun q hq => g3 q (List.mem_map.2 ⟨_, hq, by simp⟩)⟩
theorem HOn.all {ms : List Nat} {es : List (Nat × Int)} (h : HOn code a ms es) (hm : ∀ p, p ∈ ms ↔ Rc (Gm code false) [(a : Int)] p) {p : Nat} {x : Int} (hr : Hr code a p x) : lookE es p = some x := by
  induction hr with
  | start => exact h.st
  | step p q i y hp hi hq ih =>
    obtain ⟨z, h1, _, h3⟩ := h.cl p ((hm p).2 hp.rc) i hi
    rw [ih] at h1
    cases h1
    exact h3 q hq
theorem HOn.ok {ms : List Nat} {es : List (Nat × Int)} (h : HOn code a ms es) (hm : ∀ p, p ∈ ms ↔ Rc (Gm code false) [(a : Int)] p) : okH code a := fun p x hr => by
  have hl := h.all hm hr
  refine ⟨fun i hi => ?_, fun y hy => ?_⟩
  · obtain ⟨z, h1, h2, _⟩ := h.cl p ((hm p).2 hr.rc) i hi
    rw [hl] at h1
    cases h1
    exact h2
  · have := h.all hm hy
    rw [hl] at this
    cases this
    rfl
/-- Places in the order in which they are met: each one is a beginning, or one ahead of it leads to it. -/
def Met (L : Nat → List Nat) (S : List Nat) (ms : List Nat) : Prop := ∀ k (h : k < ms.length), Fr L S (ms.take k) (ms[k])
theorem Met.snoc {L : Nat → List Nat} {S ms : List Nat} {q : Nat} (h : Met L S ms) (hq : Fr L S ms q) : Met L S (ms ++ [q]) := by
  intro k hk
  rw [List.length_append, List.length_singleton] at hk
  by_cases h1 : k < ms.length
  · rw [List.getElem_append_left h1, List.take_append_of_le_length (by omega)]
    exact h k h1
  · obtain rfl : k = ms.length := by omega
    rw [List.getElem_append_right (Nat.le_refl _)]
    simpa using hq
theorem dfs_met {L : Nat → List Nat} {S qs ms lf ms' lf' : List Nat} (h : Dfs L qs ms lf ms' lf') : Met L S ms → (∀ q ∈ qs, Fr L S ms q) → Met L S ms' := by
  induction h with
  | nil => exact fun h _ => h
  | skip q qs ms lf ms' lf' h r ih => exact fun hm hq => ih hm (fun x hx => hq x (by simp [hx]))
  | go q qs ms lf ms1 lf1 ms' lf' h i r ih1 ih2 =>
    exact fun hm hq => ih2 (ih1 (hm.snoc (hq q (by simp))) (fun x hx => .inr ⟨q, by simp, hx⟩)) (fun x hx => (hq x (by simp [hx])).mono (fun m hm => i.sub _ (by simp [hm])))
theorem held_inv (hs : ∀ p, Rc (Gm code false) [(a : Int)] p → (readP code p).isSome = true) (hnn : ∀ p, ∀ q ∈ Gm code false p, 0 ≤ q) : ∀ (ms : List Nat), Met (toL (Gm code false)) [a] ms → (∀ p ∈ ms, Rc (Gm code false) [(a : Int)] p) → HInv code a ms (heldE code a ms) := by
  suffices H : ∀ (n : Nat) (ms : List Nat), ms.length = n → Met (toL (Gm code false)) [a] ms → (∀ p ∈ ms, Rc (Gm code false) [(a : Int)] p) → HInv code a ms (heldE code a ms) from fun ms => H _ ms rfl
  intro n
  induction n with
  | zero =>
    intro ms hl _ _
    obtain rfl := List.eq_nil_of_length_eq_zero hl
    refine ⟨fun _ => ⟨fun p h hl => ?_, by simp [heldE, lookE], fun p hp => (by cases hp)⟩, fun h => (by cases h)⟩
    simp only [heldE, List.foldl_nil, lookE] at hl
    split at hl
    · rename_i he
      subst he
      cases hl
      exact .start
    · cases hl
  | succ n ih =>
    intro ms0 hl hm hrc
    obtain ⟨ms, p, rfl⟩ : ∃ ms p, ms0 = ms ++ [p] := by
      rcases List.eq_nil_or_concat ms0 with h | ⟨ms, p, h⟩
      · rw [h] at hl; cases hl
      · exact ⟨ms, p, by rw [h, List.concat_eq_append]⟩
    have hln : ms.length = n := by simpa using hl
    have hm1 : Met (toL (Gm code false)) [a] ms := fun k hk => by
      have := hm k (by simp; omega)
      rwa [List.getElem_append_left hk, List.take_append_of_le_length (by omega)] at this
    have hfr : Fr (toL (Gm code false)) [a] ms p := by
      have := hm ms.length (by simp)
      simpa using this
    rw [heldE_push]
    refine (ih ms hln hm1 (fun q hq => hrc q (by simp [hq]))).visit (fun u hu => hs u (hrc u (by simp [hu]))) ?_ (hs p (hrc p (by simp))) (hnn p)
    rcases hfr with h | ⟨u, hu, hpu⟩
    · exact .inl (by simpa using h)
    · obtain ⟨x, hx, rfl⟩ := List.mem_map.1 hpu
      have := hnn u x hx
      exact .inr ⟨u, hu, by rwa [show ((x.toNat : Nat) : Int) = x by omega]⟩
theorem held_ok (hs : ∀ p, Rc (Gm code false) [(a : Int)] p → (readP code p).isSome = true) (hnn : ∀ p, ∀ q ∈ Gm code false p, 0 ≤ q) {ms : List Nat} (hm : Met (toL (Gm code false)) [a] ms) (hr : ∀ p, p ∈ ms ↔ Rc (Gm code false) [(a : Int)] p) :
    (heldE code a ms).1 = pdec (okH code a) ∧ (okH code a → ∀ p ∈ ms, lookE (heldE code a ms).2 p = some (hgt code a p)) := by
  have hI := held_inv hs hnn ms hm (fun p hp => (hr p).1 hp)
  constructor
  · cases hb : (heldE code a ms).1 with
    | true => exact (pdec_yes ((hI.on hb).ok hr)).symm
    | false => exact (pdec_no (hI.off hb)).symm
  · intro hok p hp
    cases hb : (heldE code a ms).1 with
    | true =>
      obtain ⟨x, hx⟩ := rc_hr hs ((hr p).1 hp)
      rw [(hI.on hb).all hr hx, hgt_eq hok hx]
    | false => exact absurd hok (hI.off hb)
end
/-- Heights as the model finds them: places in a row, those ahead of the k-th one asked, and a height for each place, below 0 for none. -/
structure BHt (code : List Int) (a : Nat) (line : List Nat) (k : Nat) (f : Nat → Int) : Prop where
  hr : ∀ q, q < code.length → 0 ≤ f q → Hr code a q (f q)
  ln : ∀ q, q ∈ line ↔ (q < code.length ∧ 0 ≤ f q)
  st : a ∈ line ∧ f a = 0
  cl : ∀ j (hj : j < line.length), j < k → ∀ i, readP code line[j] = some i → mayP i (f line[j]) = true ∧ ∀ q : Nat, (q : Int) ∈ Gm code false line[j] → f q = f line[j] + riseP i ∧ q ∈ line
  nd : line.Nodup
/-- The same within the places to which the k-th one leads. -/
structure BHn (code : List Int) (a : Nat) (line0 : List Nat) (k : Nat) (p : Nat) (i : IIns) (f0 : Nat → Int) (t : Nat) (line : List Nat) (f : Nat → Int) : Prop where
  hr : ∀ q, q < code.length → 0 ≤ f q → Hr code a q (f q)
  ln : ∀ q, q ∈ line ↔ (q < code.length ∧ 0 ≤ f q)
  pre : ∃ ex, line = line0 ++ ex
  old : ∀ q ∈ line0, f q = f0 q
  nx : ∀ q : Nat, (q : Int) ∈ (Gm code false p).take t → f q = f0 p + riseP i ∧ q ∈ line
  nd : line.Nodup
section
variable {code : List Int} {a : Nat}
theorem BHt.begin (hal : a < code.length) : BHt code a [a] 0 (fun q => if q = a then 0 else -1) where
  hr q hq h := by
    by_cases e : q = a
    · subst e; simp only [if_true]; exact .start
    · rw [if_neg e] at h; omega
  ln q := by
    by_cases e : q = a
    · subst e; simp [hal]
    · simp [e]
  st := ⟨by simp, by simp⟩
  cl j hj hk := by omega
  nd := by simp
theorem BHt.end_ {line : List Nat} {k : Nat} {f : Nat → Int} (h : BHt code a line k f) (hk : line.length ≤ k) : okH code a ∧ ∀ p x, Hr code a p x → p ∈ line ∧ f p = x := by
  have hall : ∀ p x, Hr code a p x → p ∈ line ∧ f p = x := fun p x hx => by
    induction hx with
    | start => exact h.st
    | step p q i y hp hi hq ih =>
      obtain ⟨j, hj, e⟩ := List.mem_iff_getElem.1 ih.1
      have := (h.cl j hj (by omega) i (by rw [e]; exact hi)).2 q (by rw [e]; exact hq)
      rw [e, ih.2] at this
      exact ⟨this.2, this.1⟩
  refine ⟨fun p x hx => ⟨fun i hi => ?_, fun y hy => ?_⟩, hall⟩
  · obtain ⟨hm, hf⟩ := hall p x hx
    obtain ⟨j, hj, e⟩ := List.mem_iff_getElem.1 hm
    have := (h.cl j hj (by omega) i (by rw [e]; exact hi)).1
    rwa [e, hf] at this
  · rw [← (hall p x hx).2, ← (hall p y hy).2]
theorem BHt.hp {line : List Nat} {k : Nat} {f : Nat → Int} (h : BHt code a line k f) {p : Nat} (hp : p ∈ line) : Hr code a p (f p) := h.hr p ((h.ln p).1 hp).1 ((h.ln p).1 hp).2
theorem BHt.not {line : List Nat} {k p : Nat} {i : IIns} {f : Nat → Int} (h : BHt code a line k f) (hp : p ∈ line) (hi : readP code p = some i) (hm : mayP i (f p) = false) : ¬ okH code a := fun hok => by
  have := (hok p _ (h.hp hp)).1 i hi
  rw [hm] at this
  cases this
theorem BHt.next {line : List Nat} {k p : Nat} {i : IIns} {f : Nat → Int} (h : BHt code a line k f) : BHn code a line k p i f 0 line f where
  hr := h.hr
  ln := h.ln
  pre := ⟨[], by simp⟩
  old q _ := rfl
  nx q hq := by simp at hq
  nd := h.nd
theorem rise_nn {i : IIns} {h : Int} (hm : mayP i h = true) (hn : 0 ≤ h) (hv : i.op = 25 → 0 ≤ i.n) : 0 ≤ h + riseP i := by
  simp only [mayP, Bool.and_eq_true, decide_eq_true_eq] at hm
  have h1 := hm.1
  unfold needsP at h1
  unfold riseP
  split
  · omega
  · split
    · rename_i h4; rw [if_pos h4] at h1; omega
    · split
      · rename_i h25; have := hv h25; omega
      · split
        · rename_i h4 _ h26; rw [if_neg h4, if_neg (by omega), if_pos h26] at h1; omega
        · omega
theorem BHn.bad {line0 line : List Nat} {k p t q : Nat} {i : IIns} {f0 f : Nat → Int} (h : BHn code a line0 k p i f0 t line f) (hp : Hr code a p (f0 p)) (hi : readP code p = some i) (hq : (q : Int) ∈ Gm code false p) (hql : q < code.length) (h0 : 0 ≤ f q) (hne : f q ≠ f0 p + riseP i) : ¬ okH code a := fun hok =>
  hne ((hok q _ (Hr.step p q i _ hp hi hq)).2 _ (h.hr q hql h0))
theorem take_mem_succ {l : List Int} {t : Nat} (ht : t < l.length) {x : Int} : x ∈ l.take (t + 1) ↔ x ∈ l.take t ∨ x = l[t] := by
  rw [List.take_succ_eq_append_getElem ht, List.mem_append, List.mem_singleton]
theorem BHn.same {line0 line : List Nat} {k p t q : Nat} {i : IIns} {f0 f : Nat → Int} (h : BHn code a line0 k p i f0 t line f) (ht : t < (Gm code false p).length) (hq : (Gm code false p)[t] = (q : Int)) (hql : q < code.length) (h0 : 0 ≤ f q) (he : f q = f0 p + riseP i) : BHn code a line0 k p i f0 (t + 1) line f :=
  ⟨h.hr, h.ln, h.pre, h.old, fun r hr => by
    rcases (take_mem_succ ht).1 hr with h1 | h1
    · exact h.nx r h1
    · obtain rfl : r = q := by rw [hq] at h1; omega
      exact ⟨he, (h.ln r).2 ⟨hql, h0⟩⟩, h.nd⟩
theorem BHn.new {line0 line : List Nat} {k p t q : Nat} {i : IIns} {f0 f : Nat → Int} (h : BHn code a line0 k p i f0 t line f) (hp : Hr code a p (f0 p)) (hi : readP code p = some i) (ht : t < (Gm code false p).length) (hq : (Gm code false p)[t] = (q : Int)) (hql : q < code.length) (h0 : f q < 0) (hn : 0 ≤ f0 p + riseP i) :
    BHn code a line0 k p i f0 (t + 1) (line ++ [q]) (fun r => if r = q then f0 p + riseP i else f r) := by
  have hql2 : q ∉ line := fun hm => by have := ((h.ln q).1 hm).2; omega
  refine ⟨fun r hr h1 => ?_, fun r => ?_, ?_, fun r hr => ?_, fun r hr => ?_, snoc_nodup h.nd hql2⟩
  · by_cases e : r = q
    · subst e
      simp only [if_true]
      exact .step p r i _ hp hi (hq ▸ List.getElem_mem ht)
    · simp only [if_neg e] at h1 ⊢
      exact h.hr r hr h1
  · rw [List.mem_append, List.mem_singleton, h.ln r]
    by_cases e : r = q
    · subst e; simp [hql, hn]
    · simp only [if_neg e]; exact ⟨fun h1 => h1.elim id (fun h2 => absurd h2 e), .inl⟩
  · obtain ⟨ex, rfl⟩ := h.pre
    exact ⟨ex ++ [q], by simp⟩
  · have e : r ≠ q := fun e => hql2 (by obtain ⟨ex, rfl⟩ := h.pre; rw [← e]; simp [hr])
    simp only [if_neg e]
    exact h.old r hr
  · by_cases e : r = q
    · subst e; simp
    · simp only [if_neg e]
      rcases (take_mem_succ ht).1 hr with h1 | h1
      · exact ⟨(h.nx r h1).1, by simp [(h.nx r h1).2]⟩
      · rw [hq] at h1
        omega
theorem BHn.done {line0 line : List Nat} {k p t : Nat} {i : IIns} {f0 f : Nat → Int} (h : BHn code a line0 k p i f0 t line f) (h0 : BHt code a line0 k f0) (hk : k < line0.length) (hp : line0[k] = p) (hi : readP code p = some i) (hm : mayP i (f0 p) = true) (ht : (Gm code false p).length ≤ t) : BHt code a line (k + 1) f := by
  obtain ⟨ex, rfl⟩ := h.pre
  refine ⟨h.hr, h.ln, ⟨by simp [h0.st.1], by rw [h.old a h0.st.1]; exact h0.st.2⟩, fun j hj hjk j' hj' => ?_, h.nd⟩
  have hjl : j < line0.length := by omega
  rw [List.getElem_append_left hjl] at hj' ⊢
  rw [h.old _ (List.getElem_mem hjl)]
  by_cases e : j = k
  · subst e
    rw [hp] at hj' ⊢
    rw [hi] at hj'
    cases hj'
    refine ⟨hm, fun q hq => h.nx q ?_⟩
    rw [List.take_of_length_le ht]
    exact hq
  · obtain ⟨g1, g2⟩ := h0.cl j hjl (by omega) j' hj'
    refine ⟨g1, fun q hq => ?_⟩
    obtain ⟨g3, g4⟩ := g2 q hq
    exact ⟨by rw [h.old q g4]; exact g3, by simp [g4]⟩
end
/-- What HeightsOf tells of a function of a sound image. -/
noncomputable def heightsL (code : List Int) (a : Nat) : List Int := if pdec (okH code a) = true then (reachL code [(a : Int)] false).map (fun x => hgt code a x.toNat) else []
end Go.Proofs.YtihhpgklpichgaaGreat.Wk
/- Walks of functions, maps by numbers, heights and blocks plainly: for claims of many texts. -/
namespace Go.Proofs.YtihhpgklpichgaaGreat.Wk
end Go.Proofs.YtihhpgklpichgaaGreat.Wk
