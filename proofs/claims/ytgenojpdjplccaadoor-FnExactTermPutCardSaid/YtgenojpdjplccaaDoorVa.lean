/- The laws' own marks over terms: markTermS, markTerm. -/
import Derived.Test.YtgenojpdjplccaaDoorUh2
import Derived.Test.YtgenojpdjplccaaDoorMark
set_option linter.unusedSimpArgs false
set_option linter.unusedVariables false
namespace Go.Proofs.YtgenojpdjplccaaDoor.Um
open Go.RowKit Pl Ft Mm In C2 Im

/-- These terms bear the marks from k on; k' is the next one. -/
def Mk : Nat → Nat → List Tm → Nat → Prop
  | 0, k, ks, k' => ks = [] ∧ k' = k
  | n + 1, k, ks, k' => ∃ F : Nat → Nat, F 0 = k ∧ F ks.length = k' ∧ ∀ j, j < ks.length → (ks.getD j tz).kind = (F j : Int) ∧ (ks.getD j tz).num = (F j : Int) + 1 ∧ (ks.getD j tz).text = mk ((F j + 2 : Nat) : Int) ∧ Mk n (F j + 3) (ks.getD j tz).kids (F (j + 1))
theorem getD_set (l : List Tm) (j i : Nat) (x : Tm) (hj : j < l.length) : (l.set j x).getD i tz = if i = j then x else l.getD i tz := by
  rw [List.getD_eq_getElem?_getD, List.getElem?_set, List.getD_eq_getElem?_getD]
  by_cases h : i = j
  · subst h
    simp [hj]
  · have h2 : ¬ j = i := fun e => h e.symm
    simp [h, h2]
theorem row_mark : ∀ (ks : List Tm) (us : List Value) (j : Nat) (a b : Int) (s : ByteArray) (l : List Tm), us.length = ks.length → j < ks.length →
    (((tCells ks us).set (j * 4) (.int .i64 a)).set (j * 4 + 1) (.int .i64 b)).set (j * 4 + 2) (.string s) = tCells (ks.set j (.mk a b s l)) us
  | [], _, _, _, _, _, _, _, h => by simp at h
  | t :: ks, [], _, _, _, _, _, h, _ => by simp at h
  | t :: ks, u :: us, 0, a, b, s, l, _, _ => by simp [tCells, tCell, Tm.kind, Tm.num, Tm.text]
  | t :: ks, u :: us, j + 1, a, b, s, l, hu, hj => by
    have ih := row_mark ks us j a b s l (by simpa using hu) (by simpa using hj)
    have e : ∀ (L : List Value) (r : Nat) (x : Value), (tCell t u ++ L).set ((j + 1) * 4 + r) x = tCell t u ++ L.set (j * 4 + r) x := by
      intro L r x
      have e4 : (j + 1) * 4 + r = (tCell t u).length + (j * 4 + r) := by simp [tCell]; omega
      rw [e4, List.set_append_right _ _ (by omega), Nat.add_sub_cancel_left]
    have e0 := fun L x => e L 0 x
    simp only [Nat.add_zero] at e0
    show (((tCell t u ++ tCells ks us).set ((j + 1) * 4) _).set ((j + 1) * 4 + 1) _).set ((j + 1) * 4 + 2) _ = tCell t u ++ tCells (ks.set j _) us
    rw [e0, e, e, ih]
def MkPost (n lo hi k : Nat) (v : Value) (ks : List Tm) (w : World) (e : Ending) (w' : World) : Prop :=
  ∃ (ks' : List Tm) (k' : Nat), e = .returned (.int .i64 k') ∧ k ≤ k' ∧ k' ≤ k + 3 * sizes ks ∧ ks'.length = ks.length ∧ Mk n k ks' k' ∧ KOwn w' n lo hi v ks' ∧ Only (fun b => lo ≤ b ∧ b < hi) w w'
structure MkRel (lo hi k m : Nat) (v : Value) (ks : List Tm) (us : List Value) (f g : Nat → Nat) (w : World) (j y : Nat) (kj : List Tm) (F : Nat → Nat) (wr : World) : Prop where
  len : kj.length = ks.length
  row : wr.ownsRow lo 25 4 v ks.length (tCells kj us)
  kids : ∀ i, i < ks.length → KOwn wr m (f i) (g i) (us.getD i vz) (kj.getD i tz).kids
  rest : ∀ i, j ≤ i → kj.getD i tz = ks.getD i tz
  f0 : F 0 = k
  fj : F j = y
  done : ∀ i, i < j → (kj.getD i tz).kind = (F i : Int) ∧ (kj.getD i tz).num = (F i : Int) + 1 ∧ (kj.getD i tz).text = mk ((F i + 2 : Nat) : Int) ∧ Mk m (F i + 3) (kj.getD i tz).kids (F (i + 1))
  low : k ≤ y
  high : y ≤ k + 3 * sizes (ks.take j)
  only : Only (fun b => lo ≤ b ∧ b < hi) w wr
set_option maxRecDepth 100000 in
set_option maxHeartbeats 8000000 in
theorem markTermS_c (n : Nat) : ∀ (lo hi k : Nat) (v : Value) (ks : List Tm) (w : World), KOwn w n lo hi v ks → hi ≤ w.heap.size → 0 < k → k + 3 * sizes ks ≤ 10000000 → ks.length ≤ 1048576 → (∀ j, j < ks.length → (ks.getD j tz).wide ≤ 1048576) →
    Calls Tryd.prog 73 #[v, .int .i64 k] w (MkPost n lo hi k v ks w) := by
  induction n using Nat.strongRecOn with
  | _ n ih =>
  intro lo hi k v ks w hown hhi hk0 hkb hkl hwd
  have HI := hid ih
  clear ih
  obtain ⟨sv, cv, rfl⟩ := hown.slice
  cases n with
  | zero =>
    obtain ⟨rfl, hown⟩ := hown
    have HO := hid hown
    clear hown
    go_enter Tryd.func73, Tryd.ntmps73
    go_wp2_with fail
    go_loopw [1, 5] (fun yy c wr => yy = .int .i64 k ∧ c = .int .i64 0 ∧ wr = w) (fun _ _ _ => 0)
    case atStart => exact ⟨rfl, rfl, rfl⟩
    case round =>
      obtain ⟨rfl, rfl, rfl⟩ := hrel
      go_wp2_with fail
      go_ret
      exact ⟨[], k, rfl, Nat.le_refl _, by omega, rfl, ⟨rfl, rfl⟩, ⟨rfl, HO.out⟩, Only.refl _ _⟩
  | succ m =>
    obtain ⟨us, f, g, hul, hle, hrow, hr, hks⟩ := hown
    have HUl := hid hul
    have HRow := hid hrow
    have HR := hid hr
    have HKs := hid hks
    have HWd := hid hwd
    clear hul hrow hr hks hwd
    go_enter Tryd.func73, Tryd.ntmps73
    go_wp2_with fail
    go_loopw [1, 5] (fun yy c wr => ∃ (j y : Nat) (kj : List Tm) (F : Nat → Nat), c = .int .i64 j ∧ yy = .int .i64 y ∧ j ≤ ks.length ∧ MkRel lo hi k m (.slice sv ks.length cv) ks us f g w j y kj F wr) (fun _ c _ => ks.length - (intOf c).toNat)
    case atStart => exact ⟨0, k, ks, fun _ => k, rfl, rfl, by omega, ⟨rfl, HRow.out, fun i hi => (HKs.out i hi).2.2.2, fun i _ => rfl, rfl, rfl, fun i hi => by omega, Nat.le_refl _, by simp, Only.refl _ _⟩⟩
    case round =>
      obtain ⟨j, y, kj, F, rfl, rfl, hj, hrel⟩ := hrel
      have HRel := hid hrel
      have hzr := hrel.only.size
      have hylow := hrel.low
      have hyh := hrel.high
      have hsl := sizes_take_le ks j
      have hkj := hrel.len
      by_cases hlt : j < ks.length
      · obtain ⟨r, cap', hv, hr1, hr2⟩ := own_addr hrel.row (by omega)
        have hsv : sv = some ⟨r, 0, none⟩ := by simp at hv; exact hv.1
        subst hsv
        have hrb := HR.out r rfl
        have HRb := hid hrb
        have hsn := sizes_snoc ks j hlt
        have hsl2 := sizes_take_le ks (j + 1)
        have HSz := hid (size_eq (ks.getD j tz))
        have HRest := hid (hrel.rest j (Nat.le_refl _))
        have hkd := hrel.kids j hlt
        rw [hrel.rest j (Nat.le_refl _)] at hkd
        have hwj := HWd.out j hlt
        have hwj2 := wide_eq (ks.getD j tz)
        obtain ⟨t, ht⟩ : ∃ t, ks.getD j tz = t := ⟨_, rfl⟩
        rw [ht] at hsn HSz hkd hwj hwj2
        have HT := hid ht
        have hyb : y + 3 * t.size ≤ 10000000 := by omega
        have HYb := hid hyb
        have HWj := hid hwj
        have HWj2 := hid hwj2
        have HSn := hid hsn
        have HSl2 := hid hsl2
        have htp := size_pos t
        have hyb2 : y + 3 ≤ 10000000 := by omega
        obtain ⟨su, cu, hsu⟩ := hkd.slice
        have HKd := hid hkd
        have hul2 : us.length = kj.length := by have := HUl.out; omega
        obtain ⟨_, _, _, g3⟩ := tCells_get kj us j (by omega) hul2
        have hrow := hrel.row
        have hlc := tCells_len kj us
        have e0 := hrow.cellAt (j * 4) (by omega)
        have e1 := hrow.cellAt (j * 4 + 1) (by omega)
        have e3 := hrow.cellAt (j * 4 + 3) (by omega)
        have ee2 := hrow.cellAt (j * 4 + 2) (by omega)
        have l0 : j * 4 < (tCells kj us).length := by omega
        have l1 : j * 4 + 1 < (tCells kj us).length := by omega
        have l2 : j * 4 + 2 < (tCells kj us).length := by omega
        rw [List.getElem?_eq_getElem l0] at e0
        rw [List.getElem?_eq_getElem l1] at e1
        rw [List.getElem?_eq_getElem l2] at ee2
        rw [g3, hsu] at e3
        have f0 := hrow.frozenAt (j * 4)
        have f1 := hrow.frozenAt (j * 4 + 1)
        have hst := ((hrow.stored (j * 4) (.int .i64 y)).1.stored (j * 4 + 1) (.int .i64 ((y : Int) + 1))).1
        have HSt := hid hst
        have HOn2 := hid ((hrel.only.setCell (g := r) ⟨hr1, hrb.1⟩ (j * 4) (.int .i64 y)).setCell (g := r) ⟨hr1, hrb.1⟩ (j * 4 + 1) (.int .i64 ((y : Int) + 1)))
        have HFar := hid (fun (b : Nat) (hb : b ≠ r) => (show ((wr.setCell ⟨r, j * 4, none⟩ (.int .i64 y)).setCell ⟨r, j * 4 + 1, none⟩ (.int .i64 ((y : Int) + 1))).heap[b]? = wr.heap[b]? by
          rw [Below.heap_setCell _ _ _ _ (by simpa using hb), Below.heap_setCell _ _ _ _ (by simpa using hb)]))
        have HG3 := hid g3
        obtain ⟨u0, hu0⟩ : ∃ u, (tCells kj us)[j * 4]'l0 = u := ⟨_, rfl⟩
        obtain ⟨u1, hu1⟩ : ∃ u, (tCells kj us)[j * 4 + 1]'l1 = u := ⟨_, rfl⟩
        obtain ⟨u2, hu2⟩ : ∃ u, (tCells kj us)[j * 4 + 2]'l2 = u := ⟨_, rfl⟩
        rw [hu0] at e0
        rw [hu1] at e1
        rw [hu2] at ee2
        clear hrel hst hrow hu0 hu1 hu2 hsn hsl2 hwj hwj2 ht g3 hkd hyb htp hsl hyh
        go_wp2_with fail
        have hk3 : ((y : Int) + 1 + 1) = ((y + 2 : Nat) : Int) := by omega
        rw [hk3]
        refine (markText_c (y + 2) _ (by omega) (by omega)).mono ?_
        rintro e w2 ⟨rfl, hb2⟩
        have HSt2 := hid (own_on HSt.out hb2)
        have HOn3 := hid (HOn2.out.trans (Only.of_below hb2))
        have HFar2 := hid (fun (b : Nat) (hbz : b < wr.heap.size) (hb : b ≠ r) => (show w2.heap[b]? = wr.heap[b]? from (hb2.block b (by simp [World.size_setCell]; exact hbz)).trans (HFar.out b hb)))
        have HZ2 := hid (show wr.heap.size ≤ w2.heap.size by have := hb2.size; simp [World.size_setCell] at this; exact this)
        obtain ⟨s, hs⟩ : ∃ s, mk ((y + 2 : Nat) : Int) = s := ⟨_, rfl⟩
        rw [hs]
        have HS := hid hs
        have hl3 : (((tCells kj us).set (j * 4) (.int .i64 y)).set (j * 4 + 1) (.int .i64 ((y : Int) + 1))).length = (tCells kj us).length := by simp
        have k2 := HSt2.out.cellAt (j * 4 + 2) (by omega)
        have k3 := HSt2.out.cellAt (j * 4 + 3) (by omega)
        rw [List.getElem?_set_ne (by omega), List.getElem?_set_ne (by omega), HG3.out, hsu] at k3
        rw [List.getElem?_eq_getElem (by rw [hl3]; exact l2)] at k2
        obtain ⟨u2', hu2'⟩ : ∃ u, (((tCells kj us).set (j * 4) (.int .i64 y)).set (j * 4 + 1) (.int .i64 ((y : Int) + 1)))[j * 4 + 2]'(by rw [hl3]; exact l2) = u := ⟨_, rfl⟩
        rw [hu2'] at k2
        have f2 := HSt2.out.frozenAt (j * 4 + 2)
        have hst2 := (HSt2.out.stored (j * 4 + 2) (.string s)).1
        rw [row_mark kj us j y ((y : Int) + 1) s [] hul2 (by omega)] at hst2
        have HSt3 := hid hst2
        have HOn4 := hid (HOn3.out.setCell (g := r) ⟨hr1, HRb.out.1⟩ (j * 4 + 2) (.string s))
        have HFar3 := hid (fun (b : Nat) (hbz : b < wr.heap.size) (hb : b ≠ r) => (show (w2.setCell ⟨r, j * 4 + 2, none⟩ (.string s)).heap[b]? = wr.heap[b]? from (Below.heap_setCell _ _ _ _ (by simpa using hb)).trans (HFar2.out b hbz hb)))
        clear hst2 hb2 hu2' hs hl3 e0 e1 ee2 e3 f0 f1 hk3
        go_wp2_with fail
        have hks2 := HKs.out j hlt
        obtain ⟨hlo2, hhi2, hord, _⟩ := hks2
        have HKd2 := hid (HKd.out.keep (w' := w2.setCell ⟨r, j * 4 + 2, none⟩ (.string s)) (fun b h1 h2 h3 => HFar3.out b h3 (fun e => by rcases HRb.out.2 j hlt with h | h <;> omega)))
        have hk4 : ((y : Int) + 2 + 1) = ((y + 3 : Nat) : Int) := by omega
        rw [hk4, ← hsu]
        have hsz1 := HSz.out
        have hyb3 := HYb.out
        refine (HI.out m (by omega) (f j) (g j) (y + 3) _ t.kids _ HKd2.out (by have := HZ2.out; simp [World.size_setCell]; omega) (by omega) (by omega) (by have := HWj.out; have := HWj2.out; omega) (fun i hi => by have := wides_at t.kids i hi; have := HWj.out; have := HWj2.out; omega)).mono ?_
        rintro e w3 ⟨ks', k', rfl, hk1, hk2, hkl', hmk, hown3, hon3⟩
        have HMk := hid hmk
        have HOwn3 := hid hown3
        have HOn5 := hid (HOn4.out.trans (hon3.mono (fun b hb => ⟨by omega, by omega⟩)))
        have HRow3 := hid (own_only HSt3.out (fun b hb => by
          have hbr : r = b := by simpa [Value.ownBlock] using hb
          subst hbr
          rintro ⟨h1, h2⟩
          rcases HRb.out.2 j hlt with h | h <;> omega) hon3)
        have HKeep := hid (fun (i : Nat) (hi : i < ks.length) (hij : i ≠ j) => (HRel.out.kids i hi).keep (w' := w3) (fun b h1 h2 h3 => by
          obtain ⟨_, _, ho, _⟩ := HKs.out i hi
          have hb4 : ¬ (f j ≤ b ∧ b < g j) := by
            rintro ⟨h5, h6⟩
            by_cases hlt2 : i < j
            · have := hord i hlt2; omega
            · have := ho j (by omega); omega
          have hbr : b ≠ r := by
            rintro rfl
            rcases HRb.out.2 i hi with h | h <;> omega
          exact (hon3.block b (by have := HZ2.out; simp [World.size_setCell]; omega) hb4).trans (HFar3.out b h3 hbr)))
        have hkb2 : k' ≤ y + 3 * t.size := by omega
        clear hmk hown3 hon3 k2 k3 f2
        go_wp2_with fail
        go_roundw
        case rel =>
          have hjl : j < kj.length := by omega
          have hrow4 := HRow3.out
          have hsame : tCells (kj.set j (.mk y ((y : Int) + 1) s [])) us = tCells (kj.set j (.mk y ((y : Int) + 1) s ks')) us := by
            rw [← row_mark kj us j y ((y : Int) + 1) s [] hul2 hjl, ← row_mark kj us j y ((y : Int) + 1) s ks' hul2 hjl]
          rw [hsame] at hrow4
          have hfj := HRel.out.fj
          refine ⟨j + 1, k', kj.set j (.mk y ((y : Int) + 1) s ks'), (fun i => if i = j + 1 then k' else F i), by go_num, rfl, by omega, ⟨by simp [HRel.out.len], hrow4, fun i hi => ?_, fun i hi => ?_, ?_, by simp, fun i hi => ?_, by have := HRel.out.low; omega, by have := HRel.out.high; have := HSn.out; omega, HOn5.out⟩⟩
          · rw [getD_set kj j i _ hjl]
            by_cases hij : i = j
            · subst hij
              rw [if_pos rfl]
              exact HOwn3.out
            · rw [if_neg hij]
              exact HKeep.out i hi hij
          · rw [getD_set kj j i _ hjl, if_neg (by omega)]
            exact HRel.out.rest i (by omega)
          · rw [if_neg (by omega)]
            exact HRel.out.f0
          · rw [getD_set kj j i _ hjl]
            by_cases hij : i = j
            · subst hij
              rw [if_pos rfl, if_neg (by omega), if_pos rfl, hfj]
              exact ⟨rfl, rfl, HS.out.symm, HMk.out⟩
            · rw [if_neg hij, if_neg (by omega), if_neg (by omega)]
              exact HRel.out.done i (by omega)
        case measure => simp [intOf]; omega
      · obtain rfl : j = ks.length := by omega
        clear hrel
        go_wp2_with fail
        go_ret
        have hh := HRel.out.high
        rw [List.take_length] at hh
        refine ⟨kj, y, rfl, HRel.out.low, hh, HRel.out.len, ⟨F, HRel.out.f0, by rw [HRel.out.len]; exact HRel.out.fj, fun i hi => HRel.out.done i (by have := HRel.out.len; omega)⟩, ?_, HRel.out.only⟩
        have hl := HRel.out.len
        refine ⟨us, f, g, by rw [hl]; exact HUl.out, hle, by rw [hl]; exact HRel.out.row, fun r hr => ⟨(HR.out r hr).1, fun i hi => (HR.out r hr).2 i (by omega)⟩, fun i hi => ?_⟩
        obtain ⟨a1, a2, a3, _⟩ := HKs.out i (by omega)
        exact ⟨a1, a2, a3, HRel.out.kids i (by omega)⟩
end Go.Proofs.YtgenojpdjplccaaDoor.Um
