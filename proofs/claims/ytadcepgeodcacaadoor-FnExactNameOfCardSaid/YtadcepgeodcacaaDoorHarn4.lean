/- The laws' own helpers over names and images: eqNameS, eqImage. -/
import Derived.Test.YtadcepgeodcacaaDoorHarn3
import Derived.Deep.RegionWith
import Derived.Deep.DeepCutAuto
import Derived.RegionTactic
import Derived.BigRegion
set_option linter.unusedSimpArgs false
set_option linter.unusedVariables false
namespace Go.Proofs.YtadcepgeodcacaaDoor.Im
open Go.RowKit Pl Ft Mm In C2

set_option maxHeartbeats 1000000 in
theorem eqNameS_c (l : List Nm) (va vb : Value) (w : World) (ha : NRd w va l) (hb : NRd w vb l) (hl : l.length ≤ 1048576) :
    Calls Tryd.prog 38 #[va, vb] w fun e w' => e = .returned (.bool true) ∧ Below w.heap.size w w' := by
  obtain ⟨a, ca, rfl, ha⟩ := ha
  obtain ⟨b, cb, rfl, hb⟩ := hb
  have HA := hid ha
  have HB := hid hb
  clear ha hb
  go_enter Tryd.func38, Tryd.ntmps38
  go_wp2_with fail
  go_loopw [5] (fun c wr => ∃ k : Nat, c = .int .i64 k ∧ k ≤ l.length ∧ Below w.heap.size w wr) (fun c _ => l.length - (intOf c).toNat)
  case atStart => exact ⟨0, rfl, by omega, Below.refl _ _⟩
  case round =>
    obtain ⟨k, rfl, hk, hbel⟩ := hrel
    have HBe := hid hbel
    have hz := hbel.size
    clear hbel
    by_cases hlt : k < l.length
    · rcases HA.out with h | ⟨g, o, rfl, hg, hc⟩
      · subst h; simp at hlt
      rcases HB.out with h | ⟨g2, o2, rfl, hg2, hc2⟩
      · subst h; simp at hlt
      obtain ⟨c0, c1⟩ := hc k hlt
      obtain ⟨d0, d1⟩ := hc2 k hlt
      have q0 : wr.cell? ⟨g, o + k * 2, none⟩ = some (.string (l.getD k .none).text) := (HBe.out.cell (p := ⟨g, o + k * 2, none⟩) hg).trans c0
      have q1 : wr.cell? ⟨g, o + k * 2 + 1, none⟩ = some (.int .i64 (l.getD k .none).at_) := (HBe.out.cell (p := ⟨g, o + k * 2 + 1, none⟩) hg).trans c1
      have r0 : wr.cell? ⟨g2, o2 + k * 2, none⟩ = some (.string (l.getD k .none).text) := (HBe.out.cell (p := ⟨g2, o2 + k * 2, none⟩) hg2).trans d0
      have r1 : wr.cell? ⟨g2, o2 + k * 2 + 1, none⟩ = some (.int .i64 (l.getD k .none).at_) := (HBe.out.cell (p := ⟨g2, o2 + k * 2 + 1, none⟩) hg2).trans d1
      obtain ⟨t, hte⟩ : ∃ t, (l.getD k .none).text = t := ⟨_, rfl⟩
      obtain ⟨x, hx⟩ : ∃ t, (l.getD k .none).at_ = t := ⟨_, rfl⟩
      rw [hte] at q0 r0
      rw [hx] at q1 r1
      have hk1 : (k : Int) < l.length := by omega
      have hk0 : 0 ≤ (k : Int) := by omega
      clear hc hc2 c0 c1 d0 d1 hte hx
      go_wp2_with fail
      go_region_with (go_at_call 62; refine (eqName_c ⟨t, x⟩ _).mono ?_; rintro e w1 ⟨rfl, hb1⟩)
      all_goals
        have HB1 := hid (HBe.out.drew.trans (hb1.mono hz))
        clear hb1 q0 q1 r0 r1
        go_wp2_with fail
        go_roundw
        case rel => exact ⟨k + 1, by go_num, by omega, HB1.out⟩
        case measure => simp [intOf]; omega
    · obtain rfl : k = l.length := by omega
      go_wp2_with fail
      go_ret
      exact ⟨rfl, HBe.out⟩
set_option maxHeartbeats 1000000 in
theorem eqImage_c (m : Img) (vc vd vn vc' vd' vn' : Value) (w : World) (ha : ICells w vc vd vn m) (hb : ICells w vc' vd' vn' m) (hs : Sm m) :
    Calls Tryd.prog 15 #[imgVal vc vd vn m, imgVal vc' vd' vn' m] w fun e w' => e = .returned (.bool true) ∧ Below w.heap.size w w' := by
  have hlc := hs.c
  have hld := hs.d
  have hln := hs.n
  clear hs
  have HA := hid ha
  have HB := hid hb
  clear ha hb
  have ha1 := (Below.refl w.heap.size w).alloc (Nat.le_refl _) (.cells #[vc, .int .i64 m.entry, .int .i64 m.room, vd, vn] 40)
  have HB0 := hid (ha1.alloc ha1.size (.cells #[vc', .int .i64 m.entry, .int .i64 m.room, vd', vn'] 40))
  have HX0 := hid ((Row.new w 40 #[vc, .int .i64 m.entry, .int .i64 m.room, vd, vn]).alloc (.cells #[vc', .int .i64 m.entry, .int .i64 m.room, vd', vn'] 40))
  have HY0 := hid (Row.new (w.alloc (.cells #[vc, .int .i64 m.entry, .int .i64 m.room, vd, vn] 40)) 40 #[vc', .int .i64 m.entry, .int .i64 m.room, vd', vn'])
  simp only [World.size_alloc] at HY0
  clear ha1
  unfold imgVal
  go_enter Tryd.func15, Tryd.ntmps15
  go_wp2_with fail
  refine (eqIntS_b m.code vc vc' _ (HA.out.on HB0.out).c (HB.out.on HB0.out).c (by omega)).mono ?_
  rintro e w1 ⟨rfl, hb1⟩
  have HB1 := hid (HB0.out.trans (hb1.mono HB0.out.size))
  have HX1 := hid (HX0.out.on hb1)
  have HY1 := hid (HY0.out.on hb1)
  clear hb1
  have x1 := HX1.out.cell 1
  have x2 := HX1.out.cell 2
  have x3 := HX1.out.cell 3
  have y1 := HY1.out.cell 1
  have y2 := HY1.out.cell 2
  have y3 := HY1.out.cell 3
  simp at x1 x2 x3 y1 y2 y3
  go_wp2_with fail
  refine (eqIntS_b m.data vd vd' _ (HA.out.on HB1.out).d (HB.out.on HB1.out).d (by omega)).mono ?_
  rintro e w2 ⟨rfl, hb2⟩
  have HB2 := hid (HB1.out.trans (hb2.mono HB1.out.size))
  have HX2 := hid (HX1.out.on hb2)
  have HY2 := hid (HY1.out.on hb2)
  clear hb2 x1 x2 x3 y1 y2 y3
  have x4 := HX2.out.cell 4
  have y4 := HY2.out.cell 4
  simp at x4 y4
  go_wp2_with fail
  refine (eqNameS_c m.names vn vn' _ (HA.out.on HB2.out).n (HB.out.on HB2.out).n hln).mono ?_
  rintro e w3 ⟨rfl, hb3⟩
  have HB3 := hid (HB2.out.trans (hb3.mono HB2.out.size))
  clear hb3 x4 y4
  go_wp2_with fail
  go_ret
  exact ⟨rfl, HB3.out⟩
end Go.Proofs.YtadcepgeodcacaaDoor.Im
