/- The laws' own helpers over names and images: szImage (how great an argument is), eqImage. -/
import Derived.Test.YtadcepgeodcacaaDoorHarn2
set_option linter.unusedSimpArgs false
set_option linter.unusedVariables false
namespace Go.Proofs.YtadcepgeodcacaaDoor.Im
open Go.RowKit Pl Ft Mm In C2

/-- What a size tells: less than what was left, or -1; where it isn't, all is small enough. -/
def SzPost (left : Int) (P : Prop) (w : World) (e : Ending) (w' : World) : Prop := ∃ x : Int, e = .returned (.int .i64 x) ∧ x ≤ left ∧ -1 ≤ x ∧ (0 ≤ x → P) ∧ Below w.heap.size w w'
theorem szIntS_c (a : Option Addr) (n c : Nat) (left : Int) (w : World) (h0 : 0 ≤ left) (h1 : left ≤ 1048576) (hn : n ≤ 9223372036854775807) :
    Calls Tryd.prog 24 #[.slice a n c, .int .i64 left] w (SzPost left ((n : Int) ≤ left) w) := by
  by_cases h : (n : Int) ≤ left
  · have HP := hid h
    go_enter Tryd.func24, Tryd.ntmps24
    go_wp2_with fail
    go_ret
    exact ⟨left - n, rfl, by omega, by omega, fun _ => HP.out, Below.refl _ _⟩
  · go_enter Tryd.func24, Tryd.ntmps24
    go_wp2_with fail
    go_ret
    exact ⟨-1, rfl, by omega, by omega, fun h => by omega, Below.refl _ _⟩
theorem szName_c (n : Nm) (left : Int) (w : World) (h0 : 0 ≤ left) (h1 : left ≤ 1048576) (hn : n.text.size ≤ 9223372036854775807) :
    Calls Tryd.prog 53 #[.agg #[.string n.text, .int .i64 n.at_], .int .i64 left] w (SzPost left ((n.text.size : Int) ≤ left) w) := by
  by_cases h : (n.text.size : Int) ≤ left
  · have HP := hid h
    go_enter Tryd.func53, Tryd.ntmps53
    go_wp2_with fail
    go_ret
    exact ⟨left - n.text.size, rfl, by omega, by omega, fun _ => HP.out, (Below.refl _ _).alloc (Nat.le_refl _) _⟩
  · go_enter Tryd.func53, Tryd.ntmps53
    go_wp2_with fail
    go_ret
    exact ⟨-1, rfl, by omega, by omega, fun h => by omega, (Below.refl _ _).alloc (Nat.le_refl _) _⟩
def NamesSm (l : List Nm) (k : Nat) : Prop := ∀ x ∈ l.take k, x.text.size ≤ 1048576
theorem NamesSm.succ {l : List Nm} {k : Nat} (h : NamesSm l k) (hk : k < l.length) (ht : (l.getD k .none).text.size ≤ 1048576) : NamesSm l (k + 1) := by
  have e : l.getD k .none = l[k] := by simp [hk]
  rw [e] at ht
  intro x hx
  rw [List.take_succ_eq_append_getElem hk, List.mem_append, List.mem_singleton] at hx
  rcases hx with hx | rfl
  · exact h x hx
  · exact ht
structure SzRel (l : List Nm) (left : Int) (w : World) (k : Nat) (x : Int) (wr : World) : Prop where
  le : k ≤ l.length
  x0 : 0 ≤ x
  x1 : x ≤ left
  sm : NamesSm l k
  bel : Below w.heap.size w wr
set_option maxHeartbeats 1000000 in
theorem szNameS_c (l : List Nm) (v : Value) (left : Int) (w : World) (hr : NRd w v l) (h0 : 0 ≤ left) (h1 : left ≤ 1048576) (hn : l.length ≤ 9223372036854775807) (ht : ∀ x ∈ l, x.text.size ≤ 9223372036854775807) :
    Calls Tryd.prog 25 #[v, .int .i64 left] w (SzPost left ((l.length : Int) ≤ left ∧ ∀ x ∈ l, x.text.size ≤ 1048576) w) := by
  obtain ⟨a, cap, rfl, ha⟩ := hr
  have HA := hid ha
  have HT := hid ht
  clear ha ht
  by_cases h : (l.length : Int) ≤ left
  · have HP := hid h
    go_enter Tryd.func25, Tryd.ntmps25
    go_wp2_with fail
    go_loopw [1, 5] (fun v c wr => ∃ (k : Nat) (x : Int), c = .int .i64 k ∧ v = .int .i64 x ∧ SzRel l left w k x wr) (fun _ c _ => l.length - (intOf c).toNat)
    case atStart => exact ⟨0, _, rfl, rfl, by omega, by omega, by omega, fun x hx => by simp at hx, Below.refl _ _⟩
    case round =>
      obtain ⟨k, y, rfl, rfl, hrel⟩ := hrel
      have hk := hrel.le
      have hy0 := hrel.x0
      have hy1 := hrel.x1
      have HR := hid hrel
      clear hrel
      by_cases hlt : k < l.length
      · rcases HA.out with h | ⟨g, o, rfl, hg, hc⟩
        · subst h; simp at hlt
        obtain ⟨c0, c1⟩ := hc k hlt
        have q1 : wr.cell? ⟨g, o + k * 2, none⟩ = some (.string (l.getD k .none).text) := (HR.out.bel.cell (p := ⟨g, o + k * 2, none⟩) hg).trans c0
        have q2 : wr.cell? ⟨g, o + k * 2 + 1, none⟩ = some (.int .i64 (l.getD k .none).at_) := (HR.out.bel.cell (p := ⟨g, o + k * 2 + 1, none⟩) hg).trans c1
        have hts := HT.out (l.getD k .none) (by simp [hlt])
        obtain ⟨t, hte⟩ : ∃ t, (l.getD k .none).text = t := ⟨_, rfl⟩
        obtain ⟨x, hx⟩ : ∃ t, (l.getD k .none).at_ = t := ⟨_, rfl⟩
        rw [hte] at q1 hts
        rw [hx] at q2
        have HTe := hid hte
        clear hc c0 c1 hte hx
        go_wp2_with fail
        refine (szName_c ⟨t, x⟩ y _ hy0 (by omega) hts).mono ?_
        rintro e w1 ⟨z, rfl, hz1, hz0, hzp, hb⟩
        have HB := hid (HR.out.bel.trans (hb.mono HR.out.bel.size))
        have HZp := hid hzp
        clear hb hzp
        by_cases hz : 0 ≤ z
        · go_wp2_with fail
          go_roundw
          case rel => exact ⟨k + 1, z, by go_num, rfl, by omega, hz, by omega, HR.out.sm.succ hlt (by have h : (t.size : Int) ≤ y := HZp.out hz; rw [HTe.out]; omega), HB.out⟩
          case measure => simp [intOf]; omega
        · go_wp2_with fail
          go_ret
          exact ⟨-1, rfl, by omega, by omega, fun h => by omega, HB.out⟩
      · obtain rfl : k = l.length := by omega
        go_wp2_with fail
        go_ret
        exact ⟨y, rfl, hy1, by omega, fun _ => ⟨HP.out, fun x hx => HR.out.sm x (by rw [List.take_length]; exact hx)⟩, HR.out.bel⟩
  · go_enter Tryd.func25, Tryd.ntmps25
    go_wp2_with fail
    go_ret
    exact ⟨-1, rfl, by omega, by omega, fun h => by omega, Below.refl _ _⟩
/-- What the parts of an argument are at most. -/
structure Wide (m : Img) : Prop where
  c : m.code.length ≤ 9223372036854775807
  d : m.data.length ≤ 9223372036854775807
  n : m.names.length ≤ 9223372036854775807
  t : ∀ x ∈ m.names, x.text.size ≤ 9223372036854775807
set_option maxHeartbeats 1000000 in
theorem szImage_c (m : Img) (vc vd vn : Value) (left : Int) (w : World) (hc : Rd w vc m.code) (hd : Rd w vd m.data) (hn : NRd w vn m.names) (hw : Wide m) (h0 : 0 ≤ left) (h1 : left ≤ 1048576) :
    Calls Tryd.prog 11 #[imgVal vc vd vn m, .int .i64 left] w (SzPost left (Sm m) w) := by
  obtain ⟨ac, cc, rfl⟩ := rd_slice hc
  obtain ⟨ad, cd, rfl⟩ := rd_slice hd
  obtain ⟨an, cn, rfl⟩ := nrd_slice hn
  have HN := hid hn
  have hlc := hw.c
  have hld := hw.d
  have hln := hw.n
  have HW := hid hw
  clear hc hd hn hw
  unfold imgVal
  have HX0 := hid (Row.new w 35 #[.slice ac m.code.length cc, .int .i64 m.entry, .int .i64 m.room, .slice ad m.data.length cd, .slice an m.names.length cn])
  have HB0 := hid ((Below.refl w.heap.size w).alloc (Nat.le_refl _) (.cells #[.slice ac m.code.length cc, .int .i64 m.entry, .int .i64 m.room, .slice ad m.data.length cd, .slice an m.names.length cn] 35))
  go_enter Tryd.func11, Tryd.ntmps11
  go_wp2_with fail
  refine (szIntS_c _ _ _ _ _ h0 h1 hlc).mono ?_
  rintro e w1 ⟨x, rfl, hx1, hx0, hxp, hb1⟩
  have HB1 := hid (HB0.out.trans (hb1.mono HB0.out.size))
  have HX1 := hid (HX0.out.on hb1)
  have HP1 := hid hxp
  have hz1 := hb1.size
  simp only [World.size_alloc] at hz1
  clear hb1 hxp
  by_cases hx : 0 ≤ x
  · have b3 := HX1.out.cell 3
    simp at b3
    go_wp2_with fail
    refine (szIntS_c _ _ _ _ _ hx (by omega) hld).mono ?_
    rintro e w2 ⟨y, rfl, hy1, hy0, hyp, hb2⟩
    have HB2 := hid (HB1.out.trans (hb2.mono HB1.out.size))
    have HX2 := hid (HX1.out.on hb2)
    have HP2 := hid hyp
    have hz2 := hb2.size
    clear hb2 hyp b3
    by_cases hy : 0 ≤ y
    · have b4 := HX2.out.cell 4
      simp at b4
      go_wp2_with fail
      refine (szNameS_c m.names _ _ _ (HN.out.on HB2.out) hy (by omega) hln HW.out.t).mono ?_
      rintro e w3 ⟨z, rfl, hz1, hz0, hzp, hb3⟩
      have HB3 := hid (HB2.out.trans (hb3.mono HB2.out.size))
      have HP3 := hid hzp
      clear hb3 hzp b4
      by_cases hz : 0 ≤ z
      · go_wp2_with fail
        go_ret
        exact ⟨z, rfl, by omega, by omega, fun _ => ⟨by have := HP1.out hx; omega, by have := HP2.out hy; omega, by have := (HP3.out hz).1; omega, (HP3.out hz).2⟩, HB3.out⟩
      · go_wp2_with fail
        go_ret
        exact ⟨-1, rfl, by omega, by omega, fun h => by omega, HB3.out⟩
    · go_wp2_with fail
      go_ret
      exact ⟨-1, rfl, by omega, by omega, fun h => by omega, HB2.out⟩
  · go_wp2_with fail
    go_ret
    exact ⟨-1, rfl, by omega, by omega, fun h => by omega, HB1.out⟩
theorem eqName_c (n : Nm) (w : World) : Calls Tryd.prog 62 #[.agg #[.string n.text, .int .i64 n.at_], .agg #[.string n.text, .int .i64 n.at_]] w fun e w' => e = .returned (.bool true) ∧ Below w.heap.size w w' := by
  go_enter Tryd.func62, Tryd.ntmps62
  go_wp2_with fail
  go_ret
  exact ⟨rfl, by have := (Below.refl w.heap.size w).alloc (Nat.le_refl _) (.cells #[.string n.text, .int .i64 n.at_] 67); exact this.alloc this.size _⟩
end Go.Proofs.YtadcepgeodcacaaDoor.Im
