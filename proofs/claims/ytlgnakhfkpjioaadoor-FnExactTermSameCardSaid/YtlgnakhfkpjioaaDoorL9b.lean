/- The exact law of TermSame: the walk. -/
import Derived.Test.YtlgnakhfkpjioaaDoorUi
set_option linter.unusedSimpArgs false
set_option linter.unusedVariables false
namespace Go.Proofs.YtlgnakhfkpjioaaDoor.Um
open Go.RowKit Pl Ft Mm In C2 Im

theorem sTermSame_v {a b : Tm} {x0 x1 y0 y1 : Int} {x2 y2 : ByteArray} {lx ly : Nat} (hp : Pt a x0 x1 x2 lx) (hq : Pt b y0 y1 y2 ly) {n m : Nat} {va vb : Value} {w : World} (ha : KRd w n va a.kids) (hb : KRd w m vb b.kids) (hwa : a.wide ≤ 1048576) (hwb : b.wide ≤ 1048576) :
    Calls Tryd.prog 17 #[.agg #[.int .i64 x0, .int .i64 x1, .string x2, va], .agg #[.int .i64 y0, .int .i64 y1, .string y2, vb]] w fun e w' => e = .returned (.bool (termSame a b)) ∧ Below w.heap.size w w' := by
  rw [← hp.val, ← hq.val]
  exact sTermSame_c n m a b va vb w ha hb hwa hwb
theorem termSame_v {a b : Tm} {x0 x1 y0 y1 : Int} {x2 y2 : ByteArray} {lx ly : Nat} (hp : Pt a x0 x1 x2 lx) (hq : Pt b y0 y1 y2 ly) {n m : Nat} {va vb : Value} {w : World} (ha : KRd w n va a.kids) (hb : KRd w m vb b.kids) (hwa : a.wide ≤ 1048576) (hwb : b.wide ≤ 1048576) (hT : Tabs w) :
    Calls Tryd.prog 18 #[.agg #[.int .i64 x0, .int .i64 x1, .string x2, va], .agg #[.int .i64 y0, .int .i64 y1, .string y2, vb]] w fun e w' => e = .returned (.bool (termSame a b)) ∧ Below w.heap.size w w' := by
  rw [← hp.val, ← hq.val]
  exact termSame_c n m a b va vb w ha hb hwa hwb hT
set_option maxRecDepth 100000 in
set_option maxHeartbeats 4000000 in
theorem exactTermSame_w (n m : Nat) (a b : Tm) (va vb : Value) (w : World) (hra : KRd w n va a.kids) (hla : Lim n a.kids) (hta : a.text.size ≤ 9223372036854775807) (hrb : KRd w m vb b.kids) (hlb : Lim m b.kids) (htb : b.text.size ≤ 9223372036854775807) (hT : Tabs w) :
    Calls Tryd.prog 4 #[tmVal a va, tmVal b vb] w fun e w' => e = .returned (.bool true) ∧ Below w.heap.size w w' := by
  have HRa := hid hra
  have HLa := hid hla
  have HTa := hid hta
  have HRb := hid hrb
  have HLb := hid hlb
  have HTb := hid htb
  have HT := hid hT
  clear hra hla hta hrb hlb htb hT
  obtain ⟨x0, x1, x2, lx, hp⟩ := Pt.of a
  obtain ⟨y0, y1, y2, ly, hq⟩ := Pt.of b
  rw [hp.val, hq.val]
  have HP := hid hp
  have HQ := hid hq
  clear hp hq
  have ha1 := (Below.refl w.heap.size w).alloc (Nat.le_refl _) (.cells #[.int .i64 x0, .int .i64 x1, .string x2, va] 24)
  have HB0 := hid (ha1.alloc ha1.size (.cells #[.int .i64 y0, .int .i64 y1, .string y2, vb] 24))
  have HX0 := hid ((Row.new w 24 #[.int .i64 x0, .int .i64 x1, .string x2, va]).alloc (.cells #[.int .i64 y0, .int .i64 y1, .string y2, vb] 24))
  have HY0 := hid (Row.new (w.alloc (.cells #[.int .i64 x0, .int .i64 x1, .string x2, va] 24)) 24 #[.int .i64 y0, .int .i64 y1, .string y2, vb])
  simp only [World.size_alloc] at HY0
  clear ha1
  go_enter Tryd.func4, Tryd.ntmps4
  go_wp2_with fail
  refine (szTerm_v HP.out (HRa.out.on HB0.out) HLa.out HTa.out (by omega) (by omega)).mono ?_
  rintro e w1 ⟨x, rfl, hx, hb1⟩
  have HB1 := hid (HB0.out.trans (hb1.mono HB0.out.size))
  have HX1 := hid (HX0.out.on hb1)
  have HY1 := hid (HY0.out.on hb1)
  have hz1 := hb1.size
  simp only [World.size_alloc] at hz1
  clear hb1
  rcases hx with ⟨hwd, rfl⟩ | ⟨hwd, rfl⟩
  case inr =>
    go_wp2_with fail
    go_ret
    exact ⟨rfl, HB1.out⟩
  have HWa := hid (show a.wide ≤ 1048576 by omega)
  have hsub : 0 ≤ (1048576 : Int) - a.wide := by omega
  have hsub2 : (1048576 : Int) - a.wide ≤ 1048576 := by omega
  obtain ⟨z, hz⟩ : ∃ z : Int, (1048576 : Int) - a.wide = z := ⟨_, rfl⟩
  rw [hz] at hsub hsub2 ⊢
  clear hz hwd
  have q0 := HY1.out.cell 0
  have q1 := HY1.out.cell 1
  have q2 := HY1.out.cell 2
  have q3 := HY1.out.cell 3
  simp at q0 q1 q2 q3
  go_wp2_with fail
  refine (szTerm_v HQ.out (HRb.out.on HB1.out) HLb.out HTb.out hsub hsub2).mono ?_
  rintro e w2 ⟨x', rfl, hx, hb2⟩
  have HB2 := hid (HB1.out.trans (hb2.mono HB1.out.size))
  have HX2 := hid (HX1.out.on hb2)
  have HY2 := hid (HY1.out.on hb2)
  have hz2 := hb2.size
  clear hb2 q0 q1 q2 q3
  rcases hx with ⟨hwd, rfl⟩ | ⟨hwd, rfl⟩
  case inr =>
    go_wp2_with fail
    go_ret
    exact ⟨rfl, HB2.out⟩
  have HWb := hid (show b.wide ≤ 1048576 by omega)
  have hsubb : 0 ≤ z - b.wide := by omega
  obtain ⟨z', hz'⟩ : ∃ z' : Int, z - b.wide = z' := ⟨_, rfl⟩
  rw [hz'] at hsubb ⊢
  clear hz' hwd hsub hsub2
  have p0 := HX2.out.cell 0
  have p1 := HX2.out.cell 1
  have p2 := HX2.out.cell 2
  have p3 := HX2.out.cell 3
  simp at p0 p1 p2 p3
  have q0 := HY2.out.cell 0
  have q1 := HY2.out.cell 1
  have q2 := HY2.out.cell 2
  have q3 := HY2.out.cell 3
  simp at q0 q1 q2 q3
  have hw0 : w.heap.size < w2.heap.size := by omega
  have hw1 : w.heap.size + 1 < w2.heap.size := by omega
  have HRa2 := hid (HRa.out.on HB2.out)
  have HRb2 := hid (HRb.out.on HB2.out)
  have HDr := hid (Below.refl w2.heap.size w2).drew
  go_upto_region 8 with fail
  go_cut [6] (fun s6 wx => s6 = .bool (termSame a b) ∧ Below w2.heap.size w2 wx)
  case first =>
    go_region_with (first
      | (go_at_call 14; (with_reducible refine (toTerm_v HP.out (HRa2.out.on HDr.out) HWa.out).mono ?_); rintro e wa ⟨a1, c1, rfl, howna, hba⟩; have HOa := hid howna; have HBa := hid (HDr.out.trans (hba.mono (Nat.le_refl _))); have HYa := hid (HY2.out.drew.on hba); have k0 := HYa.out.cell 0; have k1 := HYa.out.cell 1; have k2 := HYa.out.cell 2; have k3 := HYa.out.cell 3; simp at k0 k1 k2 k3; clear howna hba)
      | (go_at_call 14; (with_reducible refine (toTerm_v HQ.out (HRb2.out.on HDr.out) HWb.out).mono ?_); rintro e wb ⟨b1, c2, rfl, hownb, hbb⟩; have HOb := hid hownb; have HBb := hid (HDr.out.trans (hbb.mono (Nat.le_refl _))); have HXb := hid (HX2.out.drew.on hbb); have k0 := HXb.out.cell 0; have k1 := HXb.out.cell 1; have k2 := HXb.out.cell 2; have k3 := HXb.out.cell 3; simp at k0 k1 k2 k3; clear hownb hbb)
      | (go_at_call 14; (with_reducible refine (toTerm_v HQ.out (HRb2.out.on HBa.out) HWb.out).mono ?_); rintro e wb ⟨b1, c2, rfl, hownb, hbb⟩; have HOb := hid hownb; have HOa2 := hid (HOa.out.on hbb); have HBb := hid (HBa.out.trans (hbb.mono HBa.out.size)); clear hownb hbb)
      | (go_at_call 14; (with_reducible refine (toTerm_v HP.out (HRa2.out.on HBb.out) HWa.out).mono ?_); rintro e wa ⟨a1, c1, rfl, howna, hba⟩; have HOa := hid howna; have HOb2 := hid (HOb.out.on hba); have HBa := hid (HBb.out.trans (hba.mono HBb.out.size)); clear howna hba)
      | (go_at_call 17; (with_reducible refine (sTermSame_v HP.out HQ.out HOa2.out.rd HOb.out.rd HWa.out HWb.out).mono ?_); rintro e w3 ⟨rfl, hb3⟩; have HB3 := hid (HBb.out.trans (hb3.mono HBb.out.size)); clear hb3)
      | (go_at_call 17; (with_reducible refine (sTermSame_v HP.out HQ.out HOa.out.rd HOb2.out.rd HWa.out HWb.out).mono ?_); rintro e w3 ⟨rfl, hb3⟩; have HB3 := hid (HBa.out.trans (hb3.mono HBa.out.size)); clear hb3))
    all_goals
      go_wp2_with fail
      go_meet
      exact ⟨rfl, HB3.out⟩
  case rest =>
    obtain ⟨rfl, hbc⟩ := hcut
    have HBw := hid (HB2.out.trans (hbc.mono HB2.out.size))
    have HX3 := hid (HX2.out.on hbc)
    have HY3 := hid (HY2.out.on hbc)
    have hz3 := hbc.size
    clear hbc p0 p1 p2 p3 q0 q1 q2 q3
    have p0 := HX3.out.cell 0
    have p1 := HX3.out.cell 1
    have p2 := HX3.out.cell 2
    have p3 := HX3.out.cell 3
    simp at p0 p1 p2 p3
    go_wp2_with fail
    refine (toTerm_v HP.out (HRa.out.on HBw.out) HWa.out).mono ?_
    rintro e w4 ⟨a4, c4, rfl, hown4, hb4⟩
    have HO4 := hid hown4
    have HB4 := hid (HBw.out.trans (hb4.mono HBw.out.size))
    have HX4 := hid (HX3.out.on hb4)
    have HY4 := hid (HY3.out.on hb4)
    have hz4 := hb4.size
    clear hown4 hb4 p0 p1 p2 p3
    have hw14 : w.heap.size + 1 < w4.heap.size := by omega
    have hw04 : w.heap.size < w4.heap.size := by omega
    have HA5 := hid ((Below.refl w4.heap.size w4).alloc (Nat.le_refl _) (.cells #[.int .i64 x0, .int .i64 x1, .string x2, .slice a4 lx c4] 29))
    have HB5 := hid (HB4.out.trans (HA5.out.mono HB4.out.size))
    have HG5 := hid (Row.new w4 29 #[.int .i64 x0, .int .i64 x1, .string x2, .slice a4 lx c4])
    have HY5 := hid (HY4.out.on HA5.out)
    have q0 := HY5.out.cell 0
    have q1 := HY5.out.cell 1
    have q2 := HY5.out.cell 2
    have q3 := HY5.out.cell 3
    simp at q0 q1 q2 q3
    go_wp2_with fail
    refine (toTerm_v HQ.out (HRb.out.on HB5.out) HWb.out).mono ?_
    rintro e w6 ⟨a6, c6, rfl, hown6, hb6⟩
    have HO6 := hid hown6
    have HO4b := hid ((HO4.out.on HA5.out).on hb6)
    have HB6 := hid (HB5.out.trans (hb6.mono HB5.out.size))
    have HX6 := hid ((HX4.out.on HA5.out).on hb6)
    have HY6 := hid (HY5.out.on hb6)
    have HG6 := hid (HG5.out.on hb6)
    have hz6 := hb6.size
    simp only [World.size_alloc] at hz6
    clear hown6 hb6 q0 q1 q2 q3
    have hw16 : w.heap.size + 1 < w6.heap.size := by omega
    have hw06 : w.heap.size < w6.heap.size := by omega
    have hw46 : w4.heap.size < w6.heap.size := by omega
    have HA7 := hid ((Below.refl w6.heap.size w6).alloc (Nat.le_refl _) (.cells #[.int .i64 y0, .int .i64 y1, .string y2, .slice a6 ly c6] 29))
    have HB7 := hid (HB6.out.trans (HA7.out.mono HB6.out.size))
    have HH7 := hid (Row.new w6 29 #[.int .i64 y0, .int .i64 y1, .string y2, .slice a6 ly c6])
    have HG7 := hid (HG6.out.on HA7.out)
    have g0 := HG7.out.cell 0
    have g1 := HG7.out.cell 1
    have g2 := HG7.out.cell 2
    have g3 := HG7.out.cell 3
    simp at g0 g1 g2 g3
    go_wp2_with fail
    refine (termSame_v HP.out HQ.out (HO4b.out.on HA7.out).rd (HO6.out.on HA7.out).rd HWa.out HWb.out (HT.out.on HB7.out)).mono ?_
    rintro e w8 ⟨rfl, hb8⟩
    have HB8 := hid (HB7.out.trans (hb8.mono HB7.out.size))
    have HX8 := hid ((HX6.out.on HA7.out).on hb8)
    have HY8 := hid ((HY6.out.on HA7.out).on hb8)
    have HG8 := hid (HG7.out.on hb8)
    have HH8 := hid (HH7.out.on hb8)
    have HO8 := hid ((HO4b.out.on HA7.out).on hb8)
    have HO9 := hid ((HO6.out.on HA7.out).on hb8)
    have hz8 := hb8.size
    simp only [World.size_alloc] at hz8
    clear hb8 g0 g1 g2 g3
    have p0 := HX8.out.cell 0
    have p1 := HX8.out.cell 1
    have p2 := HX8.out.cell 2
    have p3 := HX8.out.cell 3
    simp at p0 p1 p2 p3
    have g0 := HG8.out.cell 0
    have g1 := HG8.out.cell 1
    have g2 := HG8.out.cell 2
    have g3 := HG8.out.cell 3
    simp at g0 g1 g2 g3
    have hw8 : w4.heap.size < w8.heap.size := by omega
    have hw08 : w.heap.size < w8.heap.size := by omega
    obtain ⟨r, hr⟩ : ∃ r, termSame a b = r := ⟨_, rfl⟩
    rw [hr]
    clear hr
    have hrr : (r != r) = false := by simp
    go_upto_region 14 with fail
    go_cut [39] (fun s39 wx => s39 = .bool false ∧ Below w8.heap.size w8 wx)
    case first =>
      go_region_with (first
        | (go_at_call 14; refine (toTerm_v HP.out (HRa.out.on HB8.out.drew) HWa.out).mono ?_; rintro e wa ⟨a9, c9, rfl, hown9, hb9⟩; have HO10 := hid hown9; have HB9 := hid hb9; have HG9 := hid (HG8.out.drew.on hb9); have k0 := HG9.out.cell 0; have k1 := HG9.out.cell 1; have k2 := HG9.out.cell 2; have k3 := HG9.out.cell 3; simp at k0 k1 k2 k3; clear hown9 hb9)
        | (go_at_call 16; refine (eqTerm_v HP.out (HO8.out.on ((Below.refl _ _).drew.trans HB9.out)).rd HO10.out.rd HWa.out).mono ?_; rintro e wb ⟨rfl, hb10⟩))
      all_goals
        have HB10 := hid (((Below.refl w8.heap.size w8).drew.trans HB9.out).trans (hb10.mono ((Below.refl w8.heap.size w8).drew.trans HB9.out).size))
        clear hb10
        go_wp2_with fail
        go_meet
        exact ⟨rfl, HB10.out⟩
    case rest =>
      obtain ⟨rfl, hbc⟩ := hcut
      have HBc := hid (HB8.out.trans (hbc.mono HB8.out.size))
      have HYc := hid (HY8.out.on hbc)
      have HHc := hid (HH8.out.on hbc)
      have HOc := hid (HO9.out.on hbc)
      have hzc := hbc.size
      clear hbc p0 p1 p2 p3 g0 g1 g2 g3 hrr
      have q0 := HYc.out.cell 0
      have q1 := HYc.out.cell 1
      have q2 := HYc.out.cell 2
      have q3 := HYc.out.cell 3
      simp at q0 q1 q2 q3
      have g0 := HHc.out.cell 0
      have g1 := HHc.out.cell 1
      have g2 := HHc.out.cell 2
      have g3 := HHc.out.cell 3
      simp at g0 g1 g2 g3
      have hw9 : w6.heap.size < wc.heap.size := by omega
      have hw19 : w.heap.size + 1 < wc.heap.size := by omega
      go_wp2_with fail
      go_region_with (first
        | (go_at_call 14; refine (toTerm_v HQ.out (HRb.out.on HBc.out.drew) HWb.out).mono ?_; rintro e wa ⟨a9, c9, rfl, hown9, hb9⟩; have HO10 := hid hown9; have HB9 := hid hb9; have HG9 := hid (HHc.out.drew.on hb9); have k0 := HG9.out.cell 0; have k1 := HG9.out.cell 1; have k2 := HG9.out.cell 2; have k3 := HG9.out.cell 3; simp at k0 k1 k2 k3; clear hown9 hb9)
        | (go_at_call 16; refine (eqTerm_v HQ.out (HOc.out.on ((Below.refl _ _).drew.trans HB9.out)).rd HO10.out.rd HWb.out).mono ?_; rintro e wb ⟨rfl, hb10⟩))
      all_goals
        have HB10 := hid ((HBc.out.drew.trans (HB9.out.mono HBc.out.drew.size)).trans (hb10.mono (HBc.out.drew.trans (HB9.out.mono HBc.out.drew.size)).size))
        clear hb10 q0 q1 q2 q3 g0 g1 g2 g3
        go_wp2_with fail
        go_ret
        exact ⟨rfl, HB10.out⟩
end Go.Proofs.YtlgnakhfkpjioaaDoor.Um
