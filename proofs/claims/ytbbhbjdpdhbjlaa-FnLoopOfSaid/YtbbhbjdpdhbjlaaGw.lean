/- Whether a graph is reducible, HeadsOf and Reducible of the program; the loop of a head. -/
import Derived.Test.YtbbhbjdpdhbjlaaGz
set_option linter.unusedSimpArgs false
set_option linter.unusedVariables false
namespace Go.Proofs.Ytbbhbjdpdhbjlaa.Ge
open Go.RowKit Pl Ft Mm In Gp

set_option maxRecDepth 100000 in
set_option maxHeartbeats 4000000 in
theorem everyRed_c (g : List (List Int)) (vg vo v : Value) (bs lo : Nat) (l : List (Nat × Nat)) (w : World) (h : Sd w vg vo g) (hs : Row w bs 48 #[vg, vo]) (hown : w.ownsRow lo 76 2 v l.length (eCells l)) (hl : l.length ≤ 1000) :
    Calls Try.prog 83 #[v, .func (.func 84) #[] #[.pointer (some ⟨bs, 0, none⟩)]] w fun e w' => e = .returned (.bool (l.all (redE (adj g)))) ∧ Below w.heap.size w w' := by
  have HSd := hid h
  have HS := hid hs
  have HO := hid hown
  obtain ⟨s, c, rfl⟩ := own_slice hown
  obtain ⟨f, hf⟩ : ∃ f, redE (adj g) = f := ⟨_, rfl⟩
  have HF := hid hf
  rw [hf]
  clear h hs hown hf
  go_enter Try.func83, Try.ntmps83
  go_wp2_with fail
  go_loopw [9] (fun y wr => ∃ k : Nat, y = .int .i64 k ∧ k ≤ l.length ∧ (l.take k).all f = true ∧ Below w.heap.size w wr) (fun y _ => l.length - (intOf y).toNat)
  case atStart => exact ⟨0, rfl, by omega, rfl, Below.refl _ _⟩
  case round =>
    obtain ⟨k, rfl, hk, hall, hbel⟩ := hrel
    have HAll := hid hall
    have HBe := hid hbel
    have hz := hbel.size
    clear hall
    by_cases hlt : k < l.length
    case neg =>
      obtain rfl : k = l.length := by omega
      clear hbel
      go_wp2_with fail
      go_ret
      exact ⟨bool_eq (by have := HAll.out; rw [List.take_length] at this; rw [this]), HBe.out⟩
    obtain ⟨b, cap, hve, hbb, q0, q1⟩ := ed_cells (own_on HO.out hbel) hlt
    simp only [Value.slice.injEq, true_and] at hve
    obtain ⟨rfl, rfl⟩ := hve
    have HSu := hid (all_take_succ f l k (0, 0) hlt)
    have HNo := hid (all_no f l k (0, 0) hlt)
    obtain ⟨⟨p, t⟩, het⟩ : ∃ z, l.getD k (0, 0) = z := ⟨_, rfl⟩
    rw [het] at q0 q1 HSu HNo
    simp only at q0 q1
    clear hbel het
    obtain ⟨w3, hw3⟩ : ∃ w3, wr.alloc (.cells #[.int .i64 p, .int .i64 t] 76) = w3 := ⟨_, rfl⟩
    have hba := (Below.refl wr.heap.size wr).alloc (Nat.le_refl _) (.cells #[.int .i64 p, .int .i64 t] 76)
    have hr3 := Row.new wr 76 #[.int .i64 p, .int .i64 t]
    rw [hw3] at hba hr3
    have HB3 := hid (HBe.out.trans (hba.mono hz))
    have HW3 := hid hw3
    have e0 := hr3.cell 0
    have e1 := hr3.cell 1
    simp at e0 e1
    clear hba hr3 hw3
    go_upto_region 4 with fail
    rw [HW3.out]
    clear q0 q1
    go_wp2_with fail
    refine (red1_c g vg vo p t bs w3 (HSd.out.on HB3.out) (HS.out.on HB3.out)).mono ?_
    rintro e w4 ⟨rfl, hb4⟩
    have HB4 := hid (HB3.out.trans (hb4.mono HB3.out.size))
    rw [HF.out]
    clear hb4
    cases hb : f (p, t)
    · have HBf := hid hb
      clear hb
      go_wp2_with fail
      go_ret
      exact ⟨bool_eq (by rw [HNo.out HBf.out]), HB4.out⟩
    · have HBf := hid hb
      clear hb
      go_wp2_with fail
      go_roundw
      case rel => exact ⟨k + 1, by go_num, by omega, by rw [HSu.out, HAll.out, HBf.out]; rfl, HB4.out⟩
      case measure => simp [intOf]; omega
noncomputable def redP (L : Nat → List Nat) : Bool := (backsP L).all (redE L)
set_option maxHeartbeats 1000000 in
theorem isRed_c (g : List (List Int)) (vg vo : Value) (w : World) (h : Sd w vg vo g) :
    Calls Try.prog 61 #[.agg #[vg, vo]] w fun e w' => e = .returned (.bool (redP (adj g))) ∧ Below w.heap.size w w' := by
  have HSd := hid h
  have HOk := hid h.ok
  have HB1 := hid ((Below.refl w.heap.size w).alloc (Nat.le_refl _) (.cells #[vg, vo] 48))
  have HR1 := hid (Row.new w 48 #[vg, vo])
  obtain ⟨r, hr⟩ : ∃ r, redP (adj g) = r := ⟨_, rfl⟩
  have HRr := hid hr
  rw [hr]
  clear h hr
  go_enter Try.func61, Try.ntmps61
  go_wp2_with fail
  refine (backs_c g vg vo _ (HSd.out.on HB1.out)).mono ?_
  rintro e w2 ⟨v2, rfl, hown2, hb2⟩
  have HB2 := hid (HB1.out.trans (hb2.mono HB1.out.size))
  have HR2 := hid (HR1.out.on hb2)
  have HO2 := hid hown2
  have hbl := backsP_len HOk.out
  clear hown2 hb2
  go_wp2_with fail
  refine (everyRed_c g vg vo v2 w.heap.size _ _ w2 (HSd.out.on HB2.out) HR2.out HO2.out (by omega)).mono ?_
  rintro e w3 ⟨rfl, hb3⟩
  have HB3 := hid (HB2.out.trans (hb3.mono HB2.out.size))
  rw [show (backsP (adj g)).all (redE (adj g)) = r from HRr.out]
  clear hb3
  go_wp2_with fail
  go_ret
  exact ⟨rfl, HB3.out⟩
noncomputable def headsS (g : List (List Int)) : List Int := if okG g = true then headsP (adj g) g.length else []
noncomputable def redS (g : List (List Int)) : Bool := if okG g = true then redP (adj g) else false
theorem headsS_len (g : List (List Int)) : (headsS g).length ≤ 30 := by
  unfold headsS
  split
  · rename_i h
    have := headsP_len (L := adj g) g.length
    have := okG_len h
    omega
  · simp
set_option maxRecDepth 100000 in
set_option maxHeartbeats 2000000 in
theorem headsOf_c (g : List (List Int)) (v : Value) (B : Nat) (w : World) (h : GAt B w v g) (hs : Sz g) :
    Calls Try.prog 31 #[v] w (WaysPost (headsS g) w) := by
  obtain ⟨sg, cg, rfl⟩ := h.slice
  have HG := hid h
  have HS := hid hs
  obtain ⟨os, hos⟩ : ∃ os, headsS g = os := ⟨_, rfl⟩
  have HOs := hid hos
  rw [hos]
  clear h hs hos
  go_enter Try.func31, Try.ntmps31
  go_wp2_with fail
  refine (searchedOf_c g _ B w HG.out HS.out).mono ?_
  rintro e w1 ⟨hb1, h⟩
  have HB1 := hid hb1
  rcases h with ⟨hok, rfl⟩ | ⟨hok, vo, rfl, hown⟩
  · have HO := hid (show os = [] by rw [← HOs.out, headsS, hok]; rfl)
    clear hok hb1
    go_wp2_with fail
    go_ret
    exact ⟨_, rfl, by rw [HO.out]; exact World.ownsRow_nil _ _ _ _, HB1.out.alloc HB1.out.size _⟩
  · have HO := hid (show headsP (adj g) g.length = os by rw [← HOs.out, headsS, hok]; rfl)
    have HSd := hid (sd_of hok HG.out hb1 hown)
    obtain ⟨so, co, rfl⟩ := own_slice hown
    have HB2 := hid (HB1.out.alloc HB1.out.size (.cells #[.slice sg g.length cg, .slice so (natI (orderP (adj g))).length co] 48))
    have HSd2 := hid (HSd.out.on ((Below.refl w1.heap.size w1).alloc (Nat.le_refl _) (.cells #[.slice sg g.length cg, .slice so (natI (orderP (adj g))).length co] 48)))
    clear hok hb1 hown
    go_wp2_with fail
    refine (heads_c g _ _ _ HSd2.out).mono ?_
    rintro e w2 ⟨v2, rfl, hown2, hb2⟩
    rw [HO.out] at hown2
    have HO2 := hid (own_mono hown2 HB2.out.size)
    have HB3 := hid (HB2.out.trans (hb2.mono HB2.out.size))
    obtain ⟨s2, c2, rfl⟩ := own_slice hown2
    clear hown2 hb2
    go_wp2_with fail
    go_ret
    exact ⟨_, rfl, HO2.out, HB3.out⟩
set_option maxRecDepth 100000 in
set_option maxHeartbeats 2000000 in
theorem reducible_c (g : List (List Int)) (v : Value) (B : Nat) (w : World) (h : GAt B w v g) (hs : Sz g) :
    Calls Try.prog 33 #[v] w fun e w' => e = .returned (.bool (redS g)) ∧ Below w.heap.size w w' := by
  obtain ⟨sg, cg, rfl⟩ := h.slice
  have HG := hid h
  have HS := hid hs
  obtain ⟨r, hr⟩ : ∃ r, redS g = r := ⟨_, rfl⟩
  have HR := hid hr
  rw [hr]
  clear h hs hr
  go_enter Try.func33, Try.ntmps33
  go_wp2_with fail
  refine (searchedOf_c g _ B w HG.out HS.out).mono ?_
  rintro e w1 ⟨hb1, h⟩
  have HB1 := hid hb1
  rcases h with ⟨hok, rfl⟩ | ⟨hok, vo, rfl, hown⟩
  · have HO := hid (show r = false by rw [← HR.out, redS, hok]; rfl)
    clear hok hb1
    go_wp2_with fail
    go_ret
    exact ⟨bool_eq HO.out.symm, HB1.out.alloc HB1.out.size _⟩
  · have HO := hid (show redP (adj g) = r by rw [← HR.out, redS, hok]; rfl)
    have HSd := hid (sd_of hok HG.out hb1 hown)
    obtain ⟨so, co, rfl⟩ := own_slice hown
    have HB2 := hid (HB1.out.alloc HB1.out.size (.cells #[.slice sg g.length cg, .slice so (natI (orderP (adj g))).length co] 48))
    have HSd2 := hid (HSd.out.on ((Below.refl w1.heap.size w1).alloc (Nat.le_refl _) (.cells #[.slice sg g.length cg, .slice so (natI (orderP (adj g))).length co] 48)))
    clear hok hb1 hown
    go_wp2_with fail
    refine (isRed_c g _ _ _ HSd2.out).mono ?_
    rintro e w2 ⟨rfl, hb2⟩
    rw [HO.out]
    have HB3 := hid (HB2.out.trans (hb2.mono HB2.out.size))
    clear hb2
    go_wp2_with fail
    go_ret
    exact ⟨rfl, HB3.out⟩
end Go.Proofs.Ytbbhbjdpdhbjlaa.Ge
