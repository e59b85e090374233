/- Tables of both sides; where an instruction leads: bounds. -/
import Derived.Test.YtihhpgklpichgaaGreatSw3
import Derived.Test.YtihhpgklpichgaaGreatSw
import Derived.Test.YtihhpgklpichgaaGreatApp
import Derived.Test.YtihhpgklpichgaaGreatIm1
import Derived.Test.YtihhpgklpichgaaGreatIm4
set_option linter.unusedSimpArgs false
set_option linter.unusedVariables false
namespace Go.Proofs.YtihhpgklpichgaaGreat.Wk
open Go.RowKit Pl Ft Mm In C2 Im Sw

def tabL (code : List Int) (n k : Nat) : List Int := (List.range k).map fun j => code.getD (n + 2 * j) 0 + 256 * code.getD (n + 2 * j + 1) 0
theorem tabL_succ (code : List Int) (n k : Nat) : tabL code n (k + 1) = tabL code n k ++ [code.getD (n + 2 * k) 0 + 256 * code.getD (n + 2 * k + 1) 0] := by simp [tabL, List.range_succ]
theorem tabL_len (code : List Int) (n k : Nat) : (tabL code n k).length = k := by simp [tabL]
theorem tabP_eq (code : List Int) (i : IIns) : tabP code i = if i.n + 2 * i.b ≤ code.length then some (tabL code i.n.toNat i.b.toNat) else none := rfl
def TabPost (o : Option (List Int)) (w : World) (e : Ending) (w' : World) : Prop := ∃ v', e = .returned (.tuple #[v', .bool o.isSome]) ∧ w'.ownsRow w.heap.size 3 1 v' (o.getD []).length (ints (o.getD [])) ∧ Below w.heap.size w w'
theorem tableEnd_c (i : IIns) (w : World) (n0 : -1000 ≤ i.n) (n1 : i.n ≤ 100000) (b0 : -1000 ≤ i.b) (b1 : i.b ≤ 1000) :
    Calls Tryz.prog 111 #[i.val] w fun e w' => e = .returned (.int .i64 (i.n + 2 * i.b)) ∧ Below w.heap.size w w' := by
  obtain ⟨op, a, b, n⟩ := i
  unfold IIns.val
  simp only at n0 n1 b0 b1 ⊢
  go_enter Tryz.func111, Tryz.ntmps111
  go_wp2_with fail
  go_ret
  exact ⟨int_eq (by omega), (Below.refl _ _).alloc (Nat.le_refl _) _⟩
structure TbRel (code : List Int) (n : Nat) (w : World) (g : Nat) (i : IIns) (v : Value) (xs : List Int) (k : Nat) (wr : World) : Prop where
  own : wr.ownsRow w.heap.size 3 1 v xs.length (ints xs)
  eq : xs = tabL code n k
  box : Row wr g 70 (i4 i)
  bel : Below w.heap.size w wr
theorem TbRel.more {code : List Int} {n : Nat} {w : World} {g : Nat} {i : IIns} {v v' : Value} {xs : List Int} {k : Nat} {wr w2 : World} (h : TbRel code n w g i v xs k wr) {o : Obj} {y : Int} (hy : y = code.getD (n + 2 * k) 0 + 256 * code.getD (n + 2 * k + 1) 0) (hg : Grows w.heap.size (xs ++ [y]) v v' (wr.alloc o) w2) : TbRel code n w g i v' (xs ++ [y]) (k + 1) w2 := by
  have hz := h.bel.size
  have hal := h.bel.alloc hz o
  refine ⟨hg.own, ?_, hg.row (h.box.alloc o) (no_own (h.box.alloc o) (h.own.alloc o) (by decide)), hal.trans hg.bel⟩
  rw [tabL_succ, h.eq, hy]
theorem info_int2 : (Tryz.prog.info? 3).map (fun i => (i.zero, i.size, i.bytes)) = some (some (.int .i64 0), 1, 8) := by kernel_rfl
theorem take_two_len (code : List Int) (p : Nat) : ((code.drop p).take 2).length ≤ 2 := by rw [List.length_take]; omega
theorem two_bd {code : List Int} (h : code.all isByte = true) (p : Nat) (hp : p + 1 < code.length) : 0 ≤ code.getD p 0 ∧ code.getD p 0 ≤ 255 ∧ 0 ≤ code.getD (p + 1) 0 ∧ code.getD (p + 1) 0 ≤ 255 := by
  have h1 := byte_at h p (by omega)
  have h2 := byte_at h (p + 1) hp
  omega
set_option maxRecDepth 100000 in
set_option maxHeartbeats 2000000 in
theorem tableIn_c (code : List Int) (v : Value) (i : IIns) (w : World) (hr : Rd w v code) (hcap : ∀ a n c, v = .slice a n c → n ≤ c) (hb : code.all isByte = true) (hlen : code.length ≤ 2000) (n0 : 0 ≤ i.n) (n1 : i.n ≤ 65535) (b1 : 1 ≤ i.b) (b8 : i.b ≤ 8) :
    Calls Tryz.prog 131 #[v, i.val] w (TabPost (tabP code i) w) := by
  have HRd := hid hr
  have HBy := hid hb
  obtain ⟨a, cap, rfl, hrd⟩ := hr
  have hcp := hcap _ _ _ rfl
  have HCs := hid hrd
  clear hcap hrd hb
  obtain ⟨op, ia, ib, n⟩ := i
  simp only at n0 n1 b1 b8
  obtain ⟨nn, rfl⟩ := Int.eq_ofNat_of_zero_le n0
  obtain ⟨bb, rfl⟩ := Int.eq_ofNat_of_zero_le (show 0 ≤ ib by omega)
  have hte := tabP_eq code ⟨op, ia, bb, nn⟩
  simp only [Int.toNat_natCast] at hte
  have HTe := hid hte
  clear hte
  unfold IIns.val
  simp only
  have HX0 := hid (Row.new w 70 #[.int .i64 op, .int .i64 ia, .int .i64 bb, .int .i64 nn])
  have HB0 := hid ((Below.refl w.heap.size w).alloc (Nat.le_refl _) (.cells #[.int .i64 op, .int .i64 ia, .int .i64 bb, .int .i64 nn] 70))
  go_enter Tryz.func131, Tryz.ntmps131
  go_wp2_with fail
  refine (tableEnd_c ⟨op, ia, bb, nn⟩ _ (by simp only; omega) (by simp only; omega) (by simp only; omega) (by simp only; omega)).mono ?_
  rintro e w1 ⟨rfl, hb1⟩
  have HX1 := hid (HX0.out.on hb1)
  have HB1 := hid (HB0.out.trans (hb1.mono HB0.out.size))
  have hz1 := hb1.size
  simp only [World.size_alloc] at hz1
  clear hb1
  by_cases hfit : (nn : Int) + 2 * (bb : Int) ≤ code.length
  case neg =>
    have hte := HTe.out
    rw [if_neg hfit] at hte
    have HT := hid hte
    have hfit2 : (code.length : Int) < (nn : Int) + 2 * (bb : Int) := by omega
    clear hte
    go_wp2_with fail
    go_ret2
    exact ⟨_, by rw [HT.out]; rfl, by rw [HT.out]; exact World.ownsRow_nil _ _ _ _, HB1.out⟩
  have hte := HTe.out
  rw [if_pos hfit] at hte
  have HT := hid hte
  have hfit2 : ¬ ((code.length : Int) < (nn : Int) + 2 * (bb : Int)) := by omega
  clear hte
  have x2 := HX1.out.cell 2
  have x3 := HX1.out.cell 3
  simp at x2 x3
  obtain ⟨i0, hi, hz0, hz1', hz2⟩ := info_parts info_int2
  have H0 := hid hz0
  have H1 := hid hz1'
  have H2 := hid hz2
  have HI := hid hi
  clear hz0 hz1' hz2 hi
  go_wp2_with (at_make; refine wpList_make_own _ rfl _ _ 22 rfl w1.heap.size 3 i0 (.int .i64 0) 1 Tryz.underlying22 HI.out H0.out H1.out .i64 .i64 _ bb rfl rfl rfl ?m1 ?m2 ?m3 ?_)
  case m1 => rw [H2.out]; omega
  case m2 => unfold maxLen; omega
  case m3 => simp
  intro w2 hown2 hg2
  have HO2 := hid (own_mono hown2 (show w.heap.size ≤ w1.heap.size by omega))
  have HB2 := hid (HB1.out.trans ((Below.refl w1.heap.size w1).grown hg2 (Nat.le_refl _) (fun _ h => by cases h) |>.mono (by omega)))
  have HX2 := hid (show Row w2 w.heap.size 70 #[.int .i64 op, .int .i64 ia, .int .i64 bb, .int .i64 nn] from (hg2.block w.heap.size HX1.out.lt (by simp)).trans HX1.out)
  have y2 := HX2.out.cell 2
  have y3 := HX2.out.cell 3
  simp at y2 y3
  clear hown2 hg2 x2 x3
  go_wp2_with fail
  go_loopw [7, 8] (fun v c wr => ∃ (k : Nat) (xs : List Int), c = .int .i64 ((nn + 2 * k : Nat) : Int) ∧ k ≤ bb ∧ TbRel code nn w w.heap.size ⟨op, ia, bb, nn⟩ v xs k wr) (fun _ c _ => nn + 2 * bb - (intOf c).toNat)
  case atStart => exact ⟨0, [], by simp, by omega, ⟨HO2.out, rfl, HX2.out, HB2.out⟩⟩
  case round =>
    obtain ⟨k, xs, rfl, hk, hrel⟩ := hrel
    have HR := hid hrel
    have hzr := hrel.bel.size
    have HXL := hid (show xs.length = k by rw [hrel.eq, tabL_len])
    obtain ⟨sv, cv, rfl⟩ := own_slice hrel.own
    clear hrel
    by_cases hlt : k < bb
    · rcases HCs.out with h | ⟨g, o, rfl, hg, hcs⟩
      · subst h; simp at hfit; omega
      obtain ⟨p, hp⟩ : ∃ p, nn + 2 * k = p := ⟨_, rfl⟩
      have hpl : p + 2 ≤ code.length := by omega
      have HP := hid hp
      rw [hp]
      have hsl := slice_at g o code.length cap p 2 (by omega) (by omega) (p : Int) ((p : Int) + 2) rfl rfl
      have HCw := hid (show ∀ j, j < code.length → wr.cell? ⟨g, o + j, none⟩ = some (.int .i64 (code.getD j 0)) from fun j hj => (HR.out.bel.cell (p := ⟨g, o + j, none⟩) hg).trans (hcs j hj))
      have HRp := hid (rd_part (w := wr) (Nat.lt_of_lt_of_le hg hzr) HCw.out hpl (c := cap - p))
      have hn2 := num_two code p (by omega)
      obtain ⟨y, hy⟩ : ∃ y, code.getD p 0 + code.getD (p + 1) 0 * 256 = y := ⟨_, rfl⟩
      rw [hy] at hn2
      have HN2 := hid hn2
      have HY := hid (show y = code.getD (nn + 2 * k) 0 + 256 * code.getD (nn + 2 * k + 1) 0 by rw [hp, ← hy]; omega)
      have hpe : (p : Int) < (nn : Int) + 2 * (bb : Int) := by omega
      clear hcs hn2 hy hp
      go_wp2_with fail
      refine (numberIn_s HRp.out (take_two_len code p) (part_byte p 2 HBy.out) HN2.out).mono ?_
      rintro e w3 ⟨rfl, rfl⟩
      clear hsl
      go_wp2_with (at_builtin; refine app_ints _ rfl _ _ rfl w.heap.size xs [y] _ rfl (HR.out.own.alloc _) _ _ _ rfl rfl (SrcAt.at_ _ [y] #[.int .i64 y] _ 1 rfl (by simp) rfl) (by have := HXL.out; simp only [List.length_cons, List.length_nil]; omega) (by simp; omega) ?_)
      intro v4 w4 hg4
      have HM := hid (HR.out.more HY.out hg4)
      have HPP := HP.out
      clear hg4
      go_wp2_with fail
      go_roundw
      case rel => exact ⟨k + 1, xs ++ [y], by go_num, by omega, HM.out⟩
      case measure => simp [intOf]; omega
    · obtain rfl : k = bb := by omega
      go_wp2_with fail
      go_ret2
      exact ⟨_, by rw [HT.out]; rfl, by rw [HT.out, Option.getD_some, ← HR.out.eq]; exact HR.out.own, HR.out.bel⟩
end Go.Proofs.YtihhpgklpichgaaGreat.Wk
namespace Go.Proofs.YtihhpgklpichgaaGreat.Wk
open Go.RowKit Pl Ft Mm In C2 Im Sw

def tabAt (code : List Int) (n k : Nat) : Int := if n + 2 * k + 1 < code.length then code.getD (n + 2 * k) 0 + 256 * code.getD (n + 2 * k + 1) 0 else 0
set_option maxHeartbeats 1000000 in
theorem tableAt_c (code : List Int) (v : Value) (n k : Nat) (w : World) (hr : Rd w v code) (hb : code.all isByte = true) (hlen : code.length ≤ 2000) (hn : n ≤ 65535) (hk : k ≤ 65535) :
    Calls Tryz.prog 142 #[v, .int .i64 n, .int .i64 k] w fun e w' => e = .returned (.tuple #[.int .i64 (tabAt code n k), .bool (decide (n + 2 * k + 1 < code.length))]) ∧ Below w.heap.size w w' := by
  have HBy := hid hb
  obtain ⟨a, cap, rfl, hrd⟩ := hr
  have HCs := hid hrd
  clear hrd hb
  by_cases hfit : n + 2 * k + 1 < code.length
  case neg =>
    have HT := hid (show tabAt code n k = 0 by unfold tabAt; rw [if_neg hfit])
    have HD := hid (show decide (n + 2 * k + 1 < code.length) = false from decide_eq_false hfit)
    have h1 : (code.length : Int) ≤ (n : Int) + 2 * (k : Int) + 1 := by omega
    clear hfit
    go_enter Tryz.func142, Tryz.ntmps142
    go_wp2_with fail
    go_ret2
    exact ⟨by rw [HT.out, HD.out]; rfl, Below.refl _ _⟩
  have HT := hid (show tabAt code n k = code.getD (n + 2 * k) 0 + 256 * code.getD (n + 2 * k + 1) 0 by unfold tabAt; rw [if_pos hfit])
  have HD := hid (show decide (n + 2 * k + 1 < code.length) = true from decide_eq_true hfit)
  obtain ⟨p, hp⟩ : ∃ p, n + 2 * k = p := ⟨_, rfl⟩
  have HP := hid hp
  have hpe : (n : Int) + 2 * (k : Int) = (p : Int) := by omega
  have h1 : ¬ ((code.length : Int) ≤ (p : Int) + 1) := by omega
  have h2 : (p : Int) + 1 < code.length := by omega
  have h3 : (p : Int) < code.length := by omega
  have h0 : 0 ≤ (p : Int) := by omega
  rcases HCs.out with h | ⟨g, o, rfl, hg, hcs⟩
  · subst h; simp at hfit
  have q0 := hcs p (by omega)
  have q1 := hcs (p + 1) (by omega)
  have hbd := two_bd HBy.out p (by omega)
  obtain ⟨x, hx⟩ : ∃ x, code.getD p 0 = x := ⟨_, rfl⟩
  obtain ⟨y, hy⟩ : ∃ x, code.getD (p + 1) 0 = x := ⟨_, rfl⟩
  rw [hx] at q0 hbd
  rw [hy] at q1 hbd
  obtain ⟨hx0, hx1, hy0, hy1⟩ := hbd
  have HX := hid hx
  have HY := hid hy
  clear hcs hx hy hp hfit
  go_enter Tryz.func142, Tryz.ntmps142
  go_wp2_with fail
  go_region
  all_goals
    go_wp2_with fail
    go_ret2
    exact ⟨by rw [HT.out, HD.out, HP.out, HX.out, HY.out]; rfl, (Below.refl _ _).drew⟩
set_option maxRecDepth 100000 in
set_option maxHeartbeats 2000000 in
theorem targets_c (code : List Int) (v : Value) (i : IIns) (w : World) (hr : Rd w v code) (hb : code.all isByte = true) (hlen : code.length ≤ 2000) (n0 : 0 ≤ i.n) (n1 : i.n ≤ 65535) (b1 : 1 ≤ i.b) (b8 : i.b ≤ 8) :
    Calls Tryz.prog 120 #[v, i.val] w (TabPost (tabP code i) w) := by
  have HRd := hid hr
  have HBy := hid hb
  obtain ⟨a, cap, rfl, _⟩ := hr
  clear hb
  obtain ⟨op, ia, ib, n⟩ := i
  simp only at n0 n1 b1 b8
  obtain ⟨nn, rfl⟩ := Int.eq_ofNat_of_zero_le n0
  obtain ⟨bb, rfl⟩ := Int.eq_ofNat_of_zero_le (show 0 ≤ ib by omega)
  have hte := tabP_eq code ⟨op, ia, bb, nn⟩
  simp only [Int.toNat_natCast] at hte
  have HTe := hid hte
  clear hte
  unfold IIns.val
  simp only
  have hal := (Below.refl w.heap.size w).alloc (Nat.le_refl _) (.cells #[.int .i64 op, .int .i64 ia, .int .i64 bb, .int .i64 nn] 70)
  have HX0 := hid ((Row.new w 70 #[.int .i64 op, .int .i64 ia, .int .i64 bb, .int .i64 nn]).alloc (.cells #[] 3))
  have HB0 := hid (hal.alloc hal.size (.cells #[] 3))
  have HO0 := hid (own_mono (own_lit (w.alloc (.cells #[.int .i64 op, .int .i64 ia, .int .i64 bb, .int .i64 nn] 70)) [] #[] rfl (by simp) 0 rfl) hal.size)
  clear hal
  go_enter Tryz.func120, Tryz.ntmps120
  go_wp2_with fail
  go_loopw [6, 7] (fun v c wr => ∃ (k : Nat) (xs : List Int), c = .int .i64 k ∧ k ≤ bb ∧ (k = 0 ∨ nn + 2 * k ≤ code.length) ∧ TbRel code nn w w.heap.size ⟨op, ia, bb, nn⟩ v xs k wr) (fun _ c _ => bb - (intOf c).toNat)
  case atStart => exact ⟨0, [], rfl, by omega, .inl rfl, ⟨by have := HO0.out; simpa using this, rfl, HX0.out, HB0.out⟩⟩
  case round =>
    obtain ⟨k, xs, rfl, hk, hfit, hrel⟩ := hrel
    have HR := hid hrel
    have hzr := hrel.bel.size
    have HXL := hid (show xs.length = k by rw [hrel.eq, tabL_len])
    obtain ⟨sv, cv, rfl⟩ := own_slice hrel.own
    have x2 := hrel.box.cell 2
    have x3 := hrel.box.cell 3
    simp [i4] at x2 x3
    have HFit := hid hfit
    clear hrel hfit
    by_cases hlt : k < bb
    · go_wp2_with fail
      refine (tableAt_c code _ nn k _ (HRd.out.on HR.out.bel) HBy.out hlen (by omega) (by omega)).mono ?_
      rintro e w1 ⟨rfl, hb1⟩
      have HR1 := hid (show TbRel code nn w w.heap.size ⟨op, ia, bb, nn⟩ (.slice sv xs.length cv) xs k w1 from ⟨own_on HR.out.own hb1, HR.out.eq, HR.out.box.on hb1, HR.out.bel.trans (hb1.mono hzr)⟩)
      have hz1 := hb1.size
      clear hb1 x2 x3
      by_cases hin : nn + 2 * k + 1 < code.length
      · have HTa := hid (show tabAt code nn k = code.getD (nn + 2 * k) 0 + 256 * code.getD (nn + 2 * k + 1) 0 by unfold tabAt; rw [if_pos hin])
        rw [decide_eq_true hin]
        obtain ⟨y, hy⟩ : ∃ y, tabAt code nn k = y := ⟨_, rfl⟩
        rw [hy] at HTa ⊢
        have HIn := hid hin
        clear hy hin
        go_wp2_with (at_builtin; refine app_ints _ rfl _ _ rfl w.heap.size xs [y] _ rfl (HR1.out.own.alloc _) _ _ _ rfl rfl (SrcAt.at_ _ [y] #[.int .i64 y] _ 1 rfl (by simp) rfl) (by have := HXL.out; simp only [List.length_cons, List.length_nil]; omega) (by simp; omega) ?_)
        intro v4 w4 hg4
        have HM := hid (HR1.out.more HTa.out hg4)
        clear hg4
        go_wp2_with fail
        go_roundw
        case rel => exact ⟨k + 1, xs ++ [y], by go_num, by omega, .inr (by have := HIn.out; omega), HM.out⟩
        case measure => simp [intOf]; omega
      · rw [decide_eq_false hin]
        have HT := hid (show tabP code ⟨op, ia, bb, nn⟩ = none by rw [HTe.out, if_neg (by omega)])
        obtain ⟨y, hy⟩ : ∃ y, tabAt code nn k = y := ⟨_, rfl⟩
        rw [hy]
        clear hy hin
        go_wp2_with fail
        go_ret2
        exact ⟨_, by rw [HT.out]; rfl, by rw [HT.out]; exact World.ownsRow_nil _ _ _ _, HR1.out.bel⟩
    · obtain rfl : k = bb := by omega
      have HT := hid (show tabP code ⟨op, ia, k, nn⟩ = some (tabL code nn k) by rw [HTe.out, if_pos (by have := HFit.out; omega)])
      go_wp2_with fail
      go_ret2
      exact ⟨_, by rw [HT.out]; rfl, by rw [HT.out, Option.getD_some, ← HR.out.eq]; exact HR.out.own, HR.out.bel⟩
end Go.Proofs.YtihhpgklpichgaaGreat.Wk
namespace Go.Proofs.YtihhpgklpichgaaGreat.Wk
open Go.RowKit Pl Ft Mm In C2 Im Sw

theorem table_bd {op a b n : Int} (h : validIns ⟨op, a, b, n⟩ = true) (h30 : op = 30) : 0 ≤ n ∧ n ≤ 1999 ∧ 1 ≤ b ∧ b ≤ 8 := by
  subst h30
  have hv : validAt (stab.getD 30 .none) ⟨30, a, b, n⟩ = true := by
    unfold validIns at h
    rw [Bool.and_eq_true] at h
    exact h.2
  have e1 : (stab.getD 30 .none).b = 8 := rfl
  have e2 : (stab.getD 30 .none).low = 0 := rfl
  have e3 : (stab.getD 30 .none).high = 1999 := rfl
  unfold validAt at hv
  rw [e1, e2, e3] at hv
  simp [inRange] at hv
  omega
/-- What TableOf answers. -/
def tableOf (m : Img) (x : Int) : Option (List Int) :=
  if imageOk m && (decide (0 ≤ x) && decide (x < m.code.length)) then
    match insIn m.code x.toNat with
    | some i => if i.op = 30 then tabP m.code i else none
    | none => none
  else none
end Go.Proofs.YtihhpgklpichgaaGreat.Wk
namespace Go.Proofs.YtihhpgklpichgaaGreat.Wk
open Go.RowKit Pl Ft Mm In C2 Im Sw

theorem lead_bd {i : IIns} (h : validIns i = true) (ho : i.op = 27 ∨ i.op = 28 ∨ i.op = 29) : 0 ≤ i.n ∧ i.n ≤ 1999 := by
  obtain ⟨op, a, b, n⟩ := i
  simp only at ho ⊢
  have key : ∀ k : Nat, (stab.getD k .none).low = 0 → (stab.getD k .none).high = 1999 → op = k → 0 ≤ n ∧ n ≤ 1999 := by
    intro k e2 e3 hk
    subst hk
    have hv : validAt (stab.getD k .none) ⟨(k : Int), a, b, n⟩ = true := by
      unfold validIns at h
      rw [Bool.and_eq_true] at h
      simpa using h.2
    unfold validAt at hv
    rw [e2, e3] at hv
    simp [inRange] at hv
    omega
  rcases ho with h1 | h1 | h1
  · exact key 27 rfl rfl h1
  · exact key 28 rfl rfl h1
  · exact key 29 rfl rfl h1
theorem badTab_no {code : List Int} {i : IIns} (h : i.op ≠ 30) : badTab code i = false := by unfold badTab; simp [h]
theorem tab_len {code : List Int} {i : IIns} (hb : i.b ≤ 8) : ((tabP code i).getD []).length ≤ 8 := by
  unfold tabP
  split
  · simp; omega
  · simp
theorem valid_b {i : IIns} (h : validIns i = true) (h30 : i.op = 30) : i.b ≤ 8 := (table_bd (op := i.op) (a := i.a) (b := i.b) (n := i.n) h h30).2.2.2
theorem succs_bd {code : List Int} (h : code.all isByte = true) {i : IIns} (hv : validIns i = true) {next : Int} (hx : 0 ≤ next ∧ next ≤ 100000) : ∀ q ∈ succs code i next, 0 ≤ q ∧ q ≤ 100000 := by
  intro q hq
  have hn := fun ho => lead_bd hv ho
  unfold succs at hq
  split at hq
  · cases hq
  split at hq
  · simp at hq; subst hq; have := hn (by omega); omega
  split at hq
  · simp at hq; rcases hq with rfl | rfl; (have := hn (by omega); omega); exact hx
  split at hq
  · simp at hq; rcases hq with rfl | rfl; exact hx; (have := hn (by omega); omega)
  split at hq
  · rw [List.mem_append] at hq
    rcases hq with hq | hq
    · unfold tabP at hq
      split at hq
      · simp only [Option.getD_some, List.mem_map, List.mem_range] at hq
        obtain ⟨k, hk, rfl⟩ := hq
        rename_i hfit
        have hb8 := table_bd (op := i.op) (a := i.a) (b := i.b) (n := i.n) hv (by assumption)
        have h1 := two_bd h (i.n.toNat + 2 * k) (by omega)
        omega
      · cases hq
    · simp at hq; subst hq; exact hx
  · simp at hq; subst hq; exact hx
end Go.Proofs.YtihhpgklpichgaaGreat.Wk
