/- The laws' own helpers over variables with words: szVarS, toVarS, eqVarS. -/
import Derived.Test.YtlgnakhfkpjioaaDoorHarn
set_option linter.unusedSimpArgs false
set_option linter.unusedVariables false
namespace Go.Proofs.YtlgnakhfkpjioaaDoor.Vr
open Go.RowKit Pl Ft Mm In C2 Im

theorem toVar_c (n : Nm) (w : World) : Calls Tryd.prog 69 #[.agg #[.string n.text, .int .i64 n.at_]] w fun e w' => e = .returned (.agg #[.string n.text, .int .i64 n.at_]) ∧ Below w.heap.size w w' := by
  go_enter Tryd.func69, Tryd.ntmps69
  go_wp2
  refine bodyPost_ret (v := .agg #[.string n.text, .int .i64 n.at_]) (by simp [results, Tryd.results69, go_sem]) rfl ⟨rfl, ?_⟩
  repeat' first | exact Below.refl _ _ | (refine Below.setCell ?_ (by simp; try omega) _) | (refine Below.alloc ?_ (by simp; try omega) _)
theorem info_var : (Tryd.prog.info? 65).map (fun i => (i.zero, i.size, i.bytes)) = some (some (.agg #[.string ⟨#[]⟩, .int .i64 0]), 2, 24) := by kernel_rfl
set_option maxHeartbeats 1000000 in
theorem toVarS_c (l : List Nm) (v : Value) (w : World) (ha : NRd w v l) (hl : l.length ≤ 1048576) :
    Calls Tryd.prog 34 #[v] w fun e w' => ∃ v', e = .returned v' ∧ w'.ownsRow w.heap.size 65 2 v' l.length (nmCells l) ∧ Below w.heap.size w w' := by
  obtain ⟨a, cap, rfl, ha⟩ := ha
  have HA := hid ha
  clear ha
  obtain ⟨i0, hi, hz0, hz1, hz2⟩ := info_parts info_var
  have H0 := hid hz0
  have H1 := hid hz1
  have H2 := hid hz2
  have HI := hid hi
  clear hz0 hz1 hz2 hi
  go_enter Tryd.func34, Tryd.ntmps34
  go_wp2_with (refine wpList_make_full _ rfl _ _ 50 rfl w.heap.size 65 i0 (.agg #[.string ⟨#[]⟩, .int .i64 0]) 2 Tryd.underlying50 HI.out H0.out H1.out .i64 .i64 _ _ l.length rfl rfl rfl rfl (by rw [H2.out]; omega) (by simp only [maxLen]; omega) (Nat.le_refl _) ?_; intro w1 hown1 hg1)
  obtain ⟨Z, hZ⟩ : ∃ Z, (madeCells (Value.cells (.agg #[.string ⟨#[]⟩, .int .i64 0])) (l.length * 2)).toList = Z := ⟨_, rfl⟩
  rw [hZ] at hown1
  have HZ := hid hown1.1
  have HO := hid hown1
  have HB1 := hid ((Below.refl w.heap.size w).grown hg1 (Nat.le_refl _) (by simp))
  clear hown1 hg1 hZ
  go_loopw [4] (fun c wr => ∃ k : Nat, c = .int .i64 k ∧ k ≤ l.length ∧ wr.ownsRow w.heap.size 65 2 (.slice (some ⟨w.heap.size, 0, none⟩) l.length l.length) l.length (nmCells (l.take k) ++ Z.drop (k * 2)) ∧ Below w.heap.size w wr) (fun c _ => l.length - (intOf c).toNat)
  case atStart => exact ⟨0, rfl, by omega, by simpa [nmCells] using HO.out, HB1.out⟩
  case round =>
    obtain ⟨k, rfl, hk, hown, hbel⟩ := hrel
    by_cases hlt : k < l.length
    · rcases HA.out with h | ⟨g, o, rfl, hg, hc⟩
      · subst h; simp at hlt
      obtain ⟨c0, c1⟩ := hc k hlt
      have q1 : wr.cell? ⟨g, o + k * 2, none⟩ = some (.string (l.getD k .none).text) := (hbel.cell (p := ⟨g, o + k * 2, none⟩) hg).trans c0
      have q2 : wr.cell? ⟨g, o + k * 2 + 1, none⟩ = some (.int .i64 (l.getD k .none).at_) := (hbel.cell (p := ⟨g, o + k * 2 + 1, none⟩) hg).trans c1
      obtain ⟨t, ht⟩ : ∃ t, (l.getD k .none).text = t := ⟨_, rfl⟩
      obtain ⟨x, hx⟩ : ∃ t, (l.getD k .none).at_ = t := ⟨_, rfl⟩
      rw [ht] at q1
      rw [hx] at q2
      have HT := hid ht
      have HX := hid hx
      have HOw := hid hown
      have HBe := hid hbel
      clear hown hbel hc c0 c1 ht hx
      go_wp2_with fail
      refine (toVar_c ⟨t, x⟩ _).mono ?_
      rintro e w2 ⟨rfl, hb2⟩
      have HO2 := hid (own_on HOw.out hb2)
      have HB2 := hid (HBe.out.trans (hb2.mono HBe.out.size))
      have hz2 := HO2.out.lt w.heap.size rfl
      clear hb2
      have hc0 := HO2.out.cellAt (k * 2) (by omega)
      have hc1 := HO2.out.cellAt (k * 2 + 1) (by omega)
      have hlen : k * 2 + 1 < (nmCells (l.take k) ++ Z.drop (k * 2)).length := by have := HZ.out; rw [List.length_append, nmCells_len, List.length_take, List.length_drop]; omega
      rw [List.getElem?_eq_getElem (by omega)] at hc0
      rw [List.getElem?_eq_getElem hlen] at hc1
      have hf0 := HO2.out.frozenAt (k * 2)
      have hf1 := HO2.out.frozenAt (k * 2 + 1)
      have hst := ((HO2.out.stored (k * 2) (.string t)).1.stored (k * 2 + 1) (.int .i64 x)).1
      have hstep := nm_step l Z k hlt HZ.out
      rw [HT.out, HX.out] at hstep
      rw [hstep] at hst
      have HS := hid hst
      have HB3 := hid ((HB2.out.setCell (p := ⟨w.heap.size, k * 2, none⟩) (Nat.le_refl _) (.string t)).setCell (p := ⟨w.heap.size, k * 2 + 1, none⟩) (Nat.le_refl _) (.int .i64 x))
      obtain ⟨u0, hu0⟩ : ∃ u, (nmCells (l.take k) ++ Z.drop (k * 2))[k * 2]'(by omega) = u := ⟨_, rfl⟩
      obtain ⟨u1, hu1⟩ : ∃ u, (nmCells (l.take k) ++ Z.drop (k * 2))[k * 2 + 1]'hlen = u := ⟨_, rfl⟩
      rw [hu0] at hc0
      rw [hu1] at hc1
      clear hst hstep hlen hu0 hu1 q1 q2
      go_wp2_with fail
      go_roundw
      case rel => exact ⟨k + 1, by go_num, by omega, HS.out, HB3.out⟩
      case measure => simp [intOf]; omega
    · obtain rfl : k = l.length := by omega
      have HO2 := hid hown
      have HB2 := hid hbel
      clear hown hbel
      go_wp2_with fail
      go_ret
      exact ⟨_, rfl, by have := HO2.out; rwa [List.take_length, List.drop_of_length_le (by rw [HZ.out]; exact Nat.le_refl _), List.append_nil] at this, HB2.out⟩
theorem szVar_c (n : Nm) (left : Int) (w : World) (h0 : 0 ≤ left) (h1 : left ≤ 1048576) (hn : n.text.size ≤ 9223372036854775807) :
    Calls Tryd.prog 66 #[.agg #[.string n.text, .int .i64 n.at_], .int .i64 left] w (SzPost left ((n.text.size : Int) ≤ left) w) := by
  by_cases h : (n.text.size : Int) ≤ left
  · have HP := hid h
    go_enter Tryd.func66, Tryd.ntmps66
    go_wp2_with fail
    go_ret
    exact ⟨left - n.text.size, rfl, by omega, by omega, fun _ => HP.out, (Below.refl _ _).alloc (Nat.le_refl _) _⟩
  · go_enter Tryd.func66, Tryd.ntmps66
    go_wp2_with fail
    go_ret
    exact ⟨-1, rfl, by omega, by omega, fun h => by omega, (Below.refl _ _).alloc (Nat.le_refl _) _⟩
set_option maxHeartbeats 1000000 in
theorem szVarS_c (l : List Nm) (v : Value) (left : Int) (w : World) (hr : NRd w v l) (h0 : 0 ≤ left) (h1 : left ≤ 1048576) (hn : l.length ≤ 9223372036854775807) (ht : ∀ x ∈ l, x.text.size ≤ 9223372036854775807) :
    Calls Tryd.prog 32 #[v, .int .i64 left] w (SzPost left ((l.length : Int) ≤ left ∧ ∀ x ∈ l, x.text.size ≤ 1048576) w) := by
  obtain ⟨a, cap, rfl, ha⟩ := hr
  have HA := hid ha
  have HT := hid ht
  clear ha ht
  by_cases h : (l.length : Int) ≤ left
  · have HP := hid h
    go_enter Tryd.func32, Tryd.ntmps32
    go_wp2_with fail
    go_loopw [1, 5] (fun v c wr => ∃ (k : Nat) (x : Int), c = .int .i64 k ∧ v = .int .i64 x ∧ SzRel l left w k x wr) (fun _ c _ => l.length - (intOf c).toNat)
    case atStart => exact ⟨0, _, rfl, rfl, by omega, by omega, by omega, fun x hx => by simp at hx, Below.refl _ _⟩
    case round =>
      obtain ⟨k, y, rfl, rfl, hrel⟩ := hrel
      have hk := hrel.le
      have hy0 := hrel.x0
      have hy1 := hrel.x1
      have HR := hid hrel
      clear hrel
      by_cases hlt : k < l.length
      · rcases HA.out with h | ⟨g, o, rfl, hg, hc⟩
        · subst h; simp at hlt
        obtain ⟨c0, c1⟩ := hc k hlt
        have q1 : wr.cell? ⟨g, o + k * 2, none⟩ = some (.string (l.getD k .none).text) := (HR.out.bel.cell (p := ⟨g, o + k * 2, none⟩) hg).trans c0
        have q2 : wr.cell? ⟨g, o + k * 2 + 1, none⟩ = some (.int .i64 (l.getD k .none).at_) := (HR.out.bel.cell (p := ⟨g, o + k * 2 + 1, none⟩) hg).trans c1
        have hts := HT.out (l.getD k .none) (by simp [hlt])
        obtain ⟨t, hte⟩ : ∃ t, (l.getD k .none).text = t := ⟨_, rfl⟩
        obtain ⟨x, hx⟩ : ∃ t, (l.getD k .none).at_ = t := ⟨_, rfl⟩
        rw [hte] at q1 hts
        rw [hx] at q2
        have HTe := hid hte
        clear hc c0 c1 hte hx
        go_wp2_with fail
        refine (szVar_c ⟨t, x⟩ y _ hy0 (by omega) hts).mono ?_
        rintro e w1 ⟨z, rfl, hz1, hz0, hzp, hb⟩
        have HB := hid (HR.out.bel.trans (hb.mono HR.out.bel.size))
        have HZp := hid hzp
        clear hb hzp
        by_cases hz : 0 ≤ z
        · go_wp2_with fail
          go_roundw
          case rel => exact ⟨k + 1, z, by go_num, rfl, by omega, hz, by omega, HR.out.sm.succ hlt (by have h : (t.size : Int) ≤ y := HZp.out hz; rw [HTe.out]; omega), HB.out⟩
          case measure => simp [intOf]; omega
        · go_wp2_with fail
          go_ret
          exact ⟨-1, rfl, by omega, by omega, fun h => by omega, HB.out⟩
      · obtain rfl : k = l.length := by omega
        go_wp2_with fail
        go_ret
        exact ⟨y, rfl, hy1, by omega, fun _ => ⟨HP.out, fun x hx => HR.out.sm x (by rw [List.take_length]; exact hx)⟩, HR.out.bel⟩
  · go_enter Tryd.func32, Tryd.ntmps32
    go_wp2_with fail
    go_ret
    exact ⟨-1, rfl, by omega, by omega, fun h => by omega, Below.refl _ _⟩
theorem eqVar_c (n : Nm) (w : World) : Calls Tryd.prog 74 #[.agg #[.string n.text, .int .i64 n.at_], .agg #[.string n.text, .int .i64 n.at_]] w fun e w' => e = .returned (.bool true) ∧ Below w.heap.size w w' := by
  go_enter Tryd.func74, Tryd.ntmps74
  go_wp2_with fail
  go_ret
  exact ⟨rfl, by have := (Below.refl w.heap.size w).alloc (Nat.le_refl _) (.cells #[.string n.text, .int .i64 n.at_] 65); exact this.alloc this.size _⟩
set_option maxHeartbeats 1000000 in
theorem eqVarS_c (l : List Nm) (va vb : Value) (w : World) (ha : NRd w va l) (hb : NRd w vb l) (hl : l.length ≤ 1048576) :
    Calls Tryd.prog 37 #[va, vb] w fun e w' => e = .returned (.bool true) ∧ Below w.heap.size w w' := by
  obtain ⟨a, ca, rfl, ha⟩ := ha
  obtain ⟨b, cb, rfl, hb⟩ := hb
  have HA := hid ha
  have HB := hid hb
  clear ha hb
  go_enter Tryd.func37, Tryd.ntmps37
  go_wp2_with fail
  go_loopw [5] (fun c wr => ∃ k : Nat, c = .int .i64 k ∧ k ≤ l.length ∧ Below w.heap.size w wr) (fun c _ => l.length - (intOf c).toNat)
  case atStart => exact ⟨0, rfl, by omega, Below.refl _ _⟩
  case round =>
    obtain ⟨k, rfl, hk, hbel⟩ := hrel
    have HBe := hid hbel
    have hz := hbel.size
    clear hbel
    by_cases hlt : k < l.length
    · rcases HA.out with h | ⟨g, o, rfl, hg, hc⟩
      · subst h; simp at hlt
      rcases HB.out with h | ⟨g2, o2, rfl, hg2, hc2⟩
      · subst h; simp at hlt
      obtain ⟨c0, c1⟩ := hc k hlt
      obtain ⟨d0, d1⟩ := hc2 k hlt
      have q0 : wr.cell? ⟨g, o + k * 2, none⟩ = some (.string (l.getD k .none).text) := (HBe.out.cell (p := ⟨g, o + k * 2, none⟩) hg).trans c0
      have q1 : wr.cell? ⟨g, o + k * 2 + 1, none⟩ = some (.int .i64 (l.getD k .none).at_) := (HBe.out.cell (p := ⟨g, o + k * 2 + 1, none⟩) hg).trans c1
      have r0 : wr.cell? ⟨g2, o2 + k * 2, none⟩ = some (.string (l.getD k .none).text) := (HBe.out.cell (p := ⟨g2, o2 + k * 2, none⟩) hg2).trans d0
      have r1 : wr.cell? ⟨g2, o2 + k * 2 + 1, none⟩ = some (.int .i64 (l.getD k .none).at_) := (HBe.out.cell (p := ⟨g2, o2 + k * 2 + 1, none⟩) hg2).trans d1
      obtain ⟨t, hte⟩ : ∃ t, (l.getD k .none).text = t := ⟨_, rfl⟩
      obtain ⟨x, hx⟩ : ∃ t, (l.getD k .none).at_ = t := ⟨_, rfl⟩
      rw [hte] at q0 r0
      rw [hx] at q1 r1
      have hk1 : (k : Int) < l.length := by omega
      have hk0 : 0 ≤ (k : Int) := by omega
      clear hc hc2 c0 c1 d0 d1 hte hx
      go_wp2_with fail
      go_region_with (go_at_call 74; refine (eqVar_c ⟨t, x⟩ _).mono ?_; rintro e w1 ⟨rfl, hb1⟩)
      all_goals
        have HB1 := hid (HBe.out.drew.trans (hb1.mono hz))
        clear hb1 q0 q1 r0 r1
        go_wp2_with fail
        go_roundw
        case rel => exact ⟨k + 1, by go_num, by omega, HB1.out⟩
        case measure => simp [intOf]; omega
    · obtain rfl : k = l.length := by omega
      go_wp2_with fail
      go_ret
      exact ⟨rfl, HBe.out⟩
end Go.Proofs.YtlgnakhfkpjioaaDoor.Vr
