/- Terms that are drawn: badTerm; the draws of TermVars and CondTerm. -/
import Derived.Test.YtffibmlgdacafaaDoorYc
set_option linter.unusedSimpArgs false
set_option linter.unusedVariables false
namespace Go.Proofs.YtffibmlgdacafaaDoor.Um
open Go.RowKit Pl Ft Mm In C2 Im Src

theorem term1_c (sb : Nat) (a : Option Addr) (len cap : Nat) (zs : List Int) (k : Int) (w : World) (h : Src.Src w sb a len cap zs k) (hk : k + 60 ≤ 999000000) :
    Calls Tryd.prog 49 #[.pointer (some ⟨sb, 0, none⟩), .int .i64 1] w (DrT sb a len cap zs k 60 2 40 w) :=
  termS_c 20 0 10 1 (by omega) (by omega) (by omega) (fun sb a len cap zs k w h hk => term0_c 10 (by omega) sb a len cap zs k w h hk) sb a len cap zs k w h (by omega)
theorem term2_c (sb : Nat) (a : Option Addr) (len cap : Nat) (zs : List Int) (k : Int) (w : World) (h : Src.Src w sb a len cap zs k) (hk : k + 140 ≤ 999000000) :
    Calls Tryd.prog 49 #[.pointer (some ⟨sb, 0, none⟩), .int .i64 2] w (DrT sb a len cap zs k 140 4 100 w) :=
  termS_c 60 2 40 2 (by omega) (by omega) (by omega) (fun sb a len cap zs k w h hk => term1_c sb a len cap zs k w h hk) sb a len cap zs k w h (by omega)
theorem term3_c (sb : Nat) (a : Option Addr) (len cap : Nat) (zs : List Int) (k : Int) (w : World) (h : Src.Src w sb a len cap zs k) (hk : k + 300 ≤ 999000000) :
    Calls Tryd.prog 49 #[.pointer (some ⟨sb, 0, none⟩), .int .i64 3] w (DrT sb a len cap zs k 300 6 220 w) :=
  termS_c 140 4 100 3 (by omega) (by omega) (by omega) (fun sb a len cap zs k w h hk => term2_c sb a len cap zs k w h hk) sb a len cap zs k w h (by omega)
theorem term4_c (sb : Nat) (a : Option Addr) (len cap : Nat) (zs : List Int) (k : Int) (w : World) (h : Src.Src w sb a len cap zs k) (hk : k + 620 ≤ 999000000) :
    Calls Tryd.prog 49 #[.pointer (some ⟨sb, 0, none⟩), .int .i64 4] w (DrT sb a len cap zs k 620 8 460 w) :=
  termS_c 300 6 220 4 (by omega) (by omega) (by omega) (fun sb a len cap zs k w h hk => term3_c sb a len cap zs k w h hk) sb a len cap zs k w h (by omega)
theorem rare_c (sb : Nat) (a : Option Addr) (len cap : Nat) (zs : List Int) (k : Int) (w : World) (h : Src.Src w sb a len cap zs k) (hk : k ≤ 999999900) :
    Calls Tryd.prog 98 #[.pointer (some ⟨sb, 0, none⟩)] w fun e w' => ∃ (b : Bool) (k' : Int), e = .returned (.bool b) ∧ k ≤ k' ∧ k' ≤ k + 2 ∧ Src.Src w' sb a len cap zs k' ∧ Moved sb w w' := by
  have HS := hid h
  clear h
  go_enter Tryd.func98, Tryd.ntmps98
  go_wp2_with fail
  refine (pick_c 24 sb a len cap zs k w HS.out (by omega) (by omega)).mono ?_
  rintro e w1 ⟨v, k1, rfl, ⟨hv0, hv1⟩, hk1, hl1, hs, hm⟩
  have H := hid (And.intro hs hm)
  clear hs hm
  go_wp2_with fail
  go_ret
  exact ⟨_, k1, rfl, hk1, hl1, H.out.1, H.out.2⟩
def badL : List ByteArray := [⟨#[]⟩, ⟨#[37]⟩, ⟨#[119, 111, 114, 100]⟩, ⟨#[65]⟩, ⟨#[116, 111, 111, 108, 111, 110, 103, 110, 97, 109, 101]⟩]
theorem bad_small {s : ByteArray} (h : s ∈ badL) : s.size ≤ 11 := by
  simp only [badL, List.mem_cons, List.not_mem_nil, or_false] at h
  rcases h with rfl | rfl | rfl | rfl | rfl <;> decide
/-- A term with another text. -/
def withT (t : Tm) (s : ByteArray) : Tm := .mk t.kind t.num s t.kids
theorem withT_wide (t : Tm) (s : ByteArray) : (withT t s).wide ≤ t.wide + s.size := by
  rw [wide_eq, wide_eq t]
  show s.size + (t.kids.length + wides t.kids) ≤ _
  omega
set_option maxRecDepth 100000 in
set_option maxHeartbeats 4000000 in
theorem badTerm_c (sb : Nat) (a : Option Addr) (len cap : Nat) (zs : List Int) (k : Int) (w : World) (h : Src.Src w sb a len cap zs k) (hk : k + 640 ≤ 999000000) :
    Calls Tryd.prog 50 #[.pointer (some ⟨sb, 0, none⟩)] w (DrT sb a len cap zs k 640 8 480 w) := by
  have HSb := hid h.here
  have HS0 := hid (h.alloc (.cells #[.int .i64 0, .int .i64 0, .string ⟨#[]⟩, .slice none 0 0] 28))
  have HM0 := hid ((Moved.refl sb w).alloc (.cells #[.int .i64 0, .int .i64 0, .string ⟨#[]⟩, .slice none 0 0] 28))
  have HZ0 := hid (Row.new w 28 #[.int .i64 0, .int .i64 0, .string ⟨#[]⟩, .slice none 0 0])
  clear h
  go_enter Tryd.func50, Tryd.ntmps50
  go_wp2_with fail
  refine (term4_c sb a len cap zs k _ HS0.out (by omega)).mono ?_
  rintro e w1 ⟨t, vt, k0, rfl, hkp, hwt, hk0, hl0, hs, hm⟩
  obtain ⟨st, ct, rfl⟩ := hkp.slice
  obtain ⟨t0, t1, t2, lt, hp⟩ := Pt.of t
  have HP := hid hp
  rw [hp.val]
  rw [hp.l] at hkp ⊢
  have hal := (Below.refl w1.heap.size w1).alloc (Nat.le_refl _) (.cells #[.int .i64 t0, .int .i64 t1, .string t2, .slice st lt ct] 28)
  have HZ1 := hid (show Row w1 w.heap.size 28 #[.int .i64 0, .int .i64 0, .string ⟨#[]⟩, .slice none 0 0] from (hm.block _ HZ0.out.lt (by have := HSb.out; omega)).trans HZ0.out)
  have HM1 := hid (HM0.out.trans hm)
  have HSz1 := hid (show w.heap.size < w1.heap.size from HZ1.out.lt)
  have HS2 := hid (hs.below' hal)
  have HM2 := hid (HM1.out.below' hal)
  have HZ2 := hid (HZ1.out.on hal)
  have HX2 := hid (Row.new w1 28 #[.int .i64 t0, .int .i64 t1, .string t2, .slice st lt ct])
  have HK2 := hid ((hkp.weak (Q := fun b => w.heap.size + 1 ≤ b ∧ b < w1.heap.size) (fun b h1 h2 => ⟨by simpa using h2, h1⟩)).on hal)
  have HW := hid hwt
  obtain ⟨xb, hxb⟩ : ∃ q, w1.heap.size = q := ⟨_, rfl⟩
  clear hkp hwt hs hm hal hp HS0 HZ0 HM0 HZ1 HM1
  go_wp2_with fail
  generalize hw2 : w1.alloc (.cells #[.int .i64 t0, .int .i64 t1, .string t2, .slice st lt ct] 28) = w2 at HS2 HM2 HZ2 HX2 HK2 ⊢
  rw [hxb] at HX2 HK2 HSz1
  (try rw [hxb])
  clear hw2 hxb
  refine (rare_c sb a len cap zs k0 _ HS2.out (by omega)).mono ?_
  rintro e w3 ⟨b, k1, rfl, hk1, hl1, hs, hm⟩
  have HS3 := hid hs
  have HM3 := hid (HM2.out.trans hm)
  have HZ3 := hid (show Row w3 w.heap.size 28 #[.int .i64 0, .int .i64 0, .string ⟨#[]⟩, .slice none 0 0] from (hm.block _ HZ2.out.lt (by have := HSb.out; omega)).trans HZ2.out)
  have HX3 := hid (show Row w3 xb 28 #[.int .i64 t0, .int .i64 t1, .string t2, .slice st lt ct] from (hm.block _ HX2.out.lt (by have := HSb.out; have := HSz1.out; omega)).trans HX2.out)
  have HK3 := hid (HK2.out.keep hm.size (fun b hb hl => hm.block b hl (by have := HSb.out; omega)))
  clear hs hm HS2 HM2 HZ2 HX2 HK2
  cases b
  · have d0 := HX3.out.cell 0
    have d1 := HX3.out.cell 1
    have d2 := HX3.out.cell 2
    have d3 := HX3.out.cell 3
    have r0 := HZ3.out.cell 0
    have r1 := HZ3.out.cell 1
    have r2 := HZ3.out.cell 2
    have r3 := HZ3.out.cell 3
    simp at d0 d1 d2 d3 r0 r1 r2 r3
    have hfr := HZ3.out.free
    go_wp2_with fail
    clear d0 d1 d2 d3 r0 r1 r2 r3 hfr
    refine bodyPost_ret (v := .agg #[.int .i64 t0, .int .i64 t1, .string t2, .slice st lt ct])
      (results_cell_row Tryd.results50 _ _ w.heap.size 28 #[.int .i64 t0, .int .i64 t1, .string t2, .slice st lt ct] (0, 0) _ rfl (four_row HZ3.out (.int .i64 t0) (.int .i64 t1) (.string t2) (.slice st lt ct)) Tryd.underlying28 rfl size_term) rfl ?_
    exact drt_end (t := t) HSb.out HS3.out HM3.out (HK3.out.weak (fun b _ hb => by omega)) (by have := HW.out; omega) (by omega) (by omega) (HP.out.val _).symm
  · go_wp2_with fail
    have hal := (Below.refl w3.heap.size w3).alloc (Nat.le_refl _) (.cells #[.string ⟨#[]⟩, .string ⟨#[37]⟩, .string ⟨#[119, 111, 114, 100]⟩, .string ⟨#[65]⟩, .string ⟨#[116, 111, 111, 108, 111, 110, 103, 110, 97, 109, 101]⟩] 9)
    have HM4 := hid (HM3.out.below' hal)
    have HZ4 := hid (HZ3.out.on hal)
    have HX4 := hid (HX3.out.on hal)
    have HK4 := hid (HK3.out.on hal)
    clear hal
    refine (one_c badL _ sb a len cap zs k1 _ (by decide) (by decide) (fun x m => by refine srd_moved (l := badL) ?_ ?_ HS3.out.here m <;> rfl) (HS3.out.alloc _) (by omega)).mono ?_
    rintro e w5 ⟨so, k2, rfl, hso, hk2, hl2, hs, hm⟩
    have HVs := hid (bad_small hso)
    have HS5 := hid hs
    have HM5 := hid (HM4.out.trans hm)
    have HZ5 := hid (show Row w5 w.heap.size 28 #[.int .i64 0, .int .i64 0, .string ⟨#[]⟩, .slice none 0 0] from (hm.block _ HZ4.out.lt (by have := HSb.out; omega)).trans HZ4.out)
    have HX5 := hid (show Row w5 xb 28 #[.int .i64 t0, .int .i64 t1, .string t2, .slice st lt ct] from (hm.block _ HX4.out.lt (by have := HSb.out; have := HSz1.out; omega)).trans HX4.out)
    have HK5 := hid (HK4.out.keep hm.size (fun b hb hl => hm.block b hl (by have := HSb.out; omega)))
    clear hs hm hso HM4 HZ4 HX4 HK4
    have HX6 := hid (HX5.out.set 2 (.string so))
    simp at HX6
    have HZ6 := hid (HZ5.out.far (p := ⟨xb, 2, none⟩) (by have := HSz1.out; show w.heap.size ≠ xb; omega) (.string so))
    have HS6 := hid (src_same (w' := w5.setCell ⟨xb, 2, none⟩ (.string so)) HS5.out (by rw [World.size_setCell]; exact Nat.le_refl _) (fun b hb => Below.heap_setCell _ _ _ _ (by have := HSb.out; have := HSz1.out; show b ≠ xb; omega)))
    have HM6 := hid (show Moved sb w (w5.setCell ⟨xb, 2, none⟩ (.string so)) from ⟨HM5.out.os, HM5.out.tape, HM5.out.output, by rw [World.size_setCell]; exact HM5.out.size, fun b hb hne => (Below.heap_setCell _ _ _ _ (by have := HSz1.out; show b ≠ xb; omega)).trans (HM5.out.block b hb hne)⟩)
    have HK6 := hid (HK5.out.keep (w' := w5.setCell ⟨xb, 2, none⟩ (.string so)) (by rw [World.size_setCell]; exact Nat.le_refl _) (fun b hb _ => Below.heap_setCell _ _ _ _ (by show b ≠ xb; omega)))
    have d2 := HX5.out.cell 2
    simp at d2
    have hfx := HX5.out.free
    have d0 := HX6.out.cell 0
    have d1 := HX6.out.cell 1
    have e2 := HX6.out.cell 2
    have d3 := HX6.out.cell 3
    have r0 := HZ6.out.cell 0
    have r1 := HZ6.out.cell 1
    have r2 := HZ6.out.cell 2
    have r3 := HZ6.out.cell 3
    simp at d0 d1 e2 d3 r0 r1 r2 r3
    have hfr := HZ6.out.free
    go_wp2_with fail
    clear d2 d0 d1 e2 d3 r0 r1 r2 r3 hfr hfx
    refine bodyPost_ret (v := .agg #[.int .i64 t0, .int .i64 t1, .string so, .slice st lt ct])
      (results_cell_row Tryd.results50 _ _ w.heap.size 28 #[.int .i64 t0, .int .i64 t1, .string so, .slice st lt ct] (0, 0) _ rfl (four_row HZ6.out (.int .i64 t0) (.int .i64 t1) (.string so) (.slice st lt ct)) Tryd.underlying28 rfl size_term) rfl ?_
    exact drt_end (t := withT t so) HSb.out HS6.out HM6.out (HK6.out.weak (fun b _ hb => by omega)) (by have := withT_wide t so; have := HVs.out; have := HW.out; omega) (by omega) (by omega) (by rw [tmVal]; show _ = Value.agg #[.int .i64 t.kind, .int .i64 t.num, .string so, _]; rw [HP.out.k, HP.out.n])
end Go.Proofs.YtffibmlgdacafaaDoor.Um
