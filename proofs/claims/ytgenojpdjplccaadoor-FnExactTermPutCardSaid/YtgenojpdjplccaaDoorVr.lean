/- The laws' own helpers over terms that bear marks: heldTermS, heldTerm. -/
import Derived.Test.YtgenojpdjplccaaDoorVa
import Derived.Test.YtgenojpdjplccaaDoorUf
import Derived.Deep.RegionWith
set_option linter.unusedSimpArgs false
set_option linter.unusedVariables false
namespace Go.Proofs.YtgenojpdjplccaaDoor.Um
open Go.RowKit Pl Ft Mm In C2 Im

theorem markTerm_v {t : Tm} {x0 x1 : Int} {x2 : ByteArray} {lk : Nat} (hp : Pt t x0 x1 x2 lk) {n lo hi k : Nat} {v : Value} {w : World} (hown : KOwn w n lo hi v t.kids) (hhi : hi ≤ w.heap.size) (hk0 : 0 < k) (hkb : k + 3 * t.size ≤ 10000000) (hw : t.wide ≤ 1048576) :
    Calls Tryd.prog 33 #[.agg #[.int .i64 x0, .int .i64 x1, .string x2, v], .int .i64 k] w (MkPost n lo hi k v t.kids w) := by
  have HO := hid hown
  obtain ⟨sv, cv, rfl⟩ := hown.slice
  have HP := hid hp
  have HB0 := hid ((Below.refl w.heap.size w).alloc (Nat.le_refl _) (.cells #[.int .i64 x0, .int .i64 x1, .string x2, .slice sv t.kids.length cv] 25))
  have HSz := hid (size_eq t)
  have HW := hid (wide_eq t)
  clear hown hp
  obtain ⟨lk2, hlk2⟩ : ∃ l, t.kids.length = l := ⟨_, rfl⟩
  rw [hlk2] at HO HB0 HW ⊢
  have HLk := hid hlk2
  clear hlk2
  go_enter Tryd.func33, Tryd.ntmps33
  go_wp2_with fail
  refine (markTermS_c n lo hi k _ t.kids _ (HO.out.on HB0.out) (by have := HB0.out.size; omega) hk0 (by have := HSz.out; omega) (by have := HW.out; have := HLk.out; omega) (fun i hi => by have := wides_at t.kids i hi; have := HW.out; omega)).mono ?_
  rintro e w1 ⟨ks', k', rfl, h1, h2, h3, h4, h5, h6⟩
  have HR := hid (show k ≤ k' ∧ k' ≤ k + 3 * sizes t.kids ∧ ks'.length = t.kids.length ∧ Mk n k ks' k' ∧ KOwn w1 n lo hi (.slice sv lk2 cv) ks' ∧ Only (fun b => lo ≤ b ∧ b < hi) w w1 from ⟨h1, h2, h3, h4, h5, (Only.of_below HB0.out).trans h6⟩)
  clear h1 h2 h3 h4 h5 h6
  go_wp2_with fail
  go_ret
  exact ⟨ks', k', rfl, HR.out⟩
theorem Mk.le : ∀ {n k k' : Nat} {ks : List Tm}, Mk n k ks k' → k ≤ k'
  | 0, _, _, _, h => by obtain ⟨_, rfl⟩ := h; exact Nat.le_refl _
  | n + 1, k, k', ks, h => by
    obtain ⟨F, rfl, rfl, h⟩ := h
    have : ∀ j, j ≤ ks.length → F 0 ≤ F j := by
      intro j
      induction j with
      | zero => intro _; exact Nat.le_refl _
      | succ j ih =>
        intro hj
        have h1 := ih (by omega)
        have h2 := Mk.le (h j (by omega)).2.2.2
        omega
    exact this _ (Nat.le_refl _)
theorem Mk.from {n : Nat} {ks : List Tm} {F : Nat → Nat} (h : ∀ j, j < ks.length → (ks.getD j tz).kind = (F j : Int) ∧ (ks.getD j tz).num = (F j : Int) + 1 ∧ (ks.getD j tz).text = mk ((F j + 2 : Nat) : Int) ∧ Mk n (F j + 3) (ks.getD j tz).kids (F (j + 1))) : ∀ d j, j + d ≤ ks.length → F j ≤ F (j + d)
  | 0, _, _ => Nat.le_refl _
  | d + 1, j, hj => by
    have h1 := Mk.from h d j (by omega)
    have h2 := (h (j + d) (by omega)).2.2.2.le
    have : F (j + (d + 1)) = F (j + d + 1) := rfl
    omega
theorem Mk.len {n : Nat} {ks : List Tm} {F : Nat → Nat} (h : ∀ j, j < ks.length → (ks.getD j tz).kind = (F j : Int) ∧ (ks.getD j tz).num = (F j : Int) + 1 ∧ (ks.getD j tz).text = mk ((F j + 2 : Nat) : Int) ∧ Mk n (F j + 3) (ks.getD j tz).kids (F (j + 1))) : ks.length ≤ F ks.length := by
  have : ∀ j, j ≤ ks.length → j ≤ F j := by
    intro j
    induction j with
    | zero => intro _; omega
    | succ j ih =>
      intro hj
      have h1 := ih (by omega)
      have h2 := (h j (by omega)).2.2.2.le
      omega
  exact this _ (Nat.le_refl _)
set_option maxRecDepth 100000 in
set_option maxHeartbeats 4000000 in
theorem heldTermS_c (n : Nat) : ∀ (k k' : Nat) (v : Value) (ks : List Tm) (w : World), KRd w n v ks → Mk n k ks k' → 0 < k → k' ≤ 10000000 →
    Calls Tryd.prog 74 #[v, .int .i64 k] w fun e w' => e = .returned (.int .i64 k') ∧ Below w.heap.size w w' := by
  induction n using Nat.strongRecOn with
  | _ n ih =>
  intro k k' v ks w hr hmk hk0 hkb
  have HI := hid ih
  clear ih
  obtain ⟨sv, cv, rfl⟩ := hr.slice
  cases n with
  | zero =>
    obtain ⟨rfl, rfl⟩ := hmk
    go_enter Tryd.func74, Tryd.ntmps74
    go_wp2_with fail
    go_loopw [1, 5] (fun yy c wr => yy = .int .i64 k' ∧ c = .int .i64 0 ∧ wr = w) (fun _ _ _ => 0)
    case atStart => exact ⟨rfl, rfl, rfl⟩
    case round =>
      obtain ⟨rfl, rfl, rfl⟩ := hrel
      go_wp2_with fail
      go_ret
      exact ⟨rfl, Below.refl _ _⟩
  | succ m =>
    obtain ⟨F, rfl, rfl, hF⟩ := hmk
    have HF := hid hF
    have HR := hid hr
    have HMo := hid (Mk.from hF)
    have HLe := hid (fun j (hj : j < ks.length) => (hF j hj).2.2.2.le)
    have hlen := Mk.len hF
    have hlen2 : ks.length ≤ 10000000 := by omega
    clear hF hr hlen
    go_enter Tryd.func74, Tryd.ntmps74
    go_wp2_with fail
    go_loopw [1, 5] (fun yy c wr => ∃ j : Nat, c = .int .i64 j ∧ yy = .int .i64 (F j : Nat) ∧ j ≤ ks.length ∧ Below w.heap.size w wr) (fun _ c _ => ks.length - (intOf c).toNat)
    case atStart => exact ⟨0, rfl, rfl, by omega, Below.refl _ _⟩
    case round =>
      obtain ⟨j, rfl, rfl, hj, hbel⟩ := hrel
      have HBe := hid hbel
      have hz := hbel.size
      by_cases hlt : j < ks.length
      · obtain ⟨m2, b, o, cap', he, hv, hg, hc⟩ := HR.out.cells (by omega)
        obtain rfl : m = m2 := by omega
        simp only [Value.slice.injEq, true_and] at hv
        obtain ⟨rfl, rfl⟩ := hv
        obtain ⟨u, c0, c1, c2, c3, hru⟩ := hc j hlt
        obtain ⟨f0, f1, f2, f3⟩ := HF.out j hlt
        rw [f0] at c0
        rw [f1] at c1
        rw [f2] at c2
        have q0 := (HBe.out.cell (p := ⟨b, o + j * 4, none⟩) hg).trans c0
        have q1 := (HBe.out.cell (p := ⟨b, o + j * 4 + 1, none⟩) hg).trans c1
        have q2 := (HBe.out.cell (p := ⟨b, o + j * 4 + 2, none⟩) hg).trans c2
        have q3 := (HBe.out.cell (p := ⟨b, o + j * 4 + 3, none⟩) hg).trans c3
        have hle := HLe.out j hlt
        have hto := HMo.out (ks.length - (j + 1)) (j + 1) (by omega)
        rw [show j + 1 + (ks.length - (j + 1)) = ks.length by omega] at hto
        have hfr := HMo.out j 0 (by omega)
        rw [Nat.zero_add] at hfr
        have hgr : b < wr.heap.size := by omega
        obtain ⟨t, ht⟩ : ∃ t, (ks.getD j tz).kids = t := ⟨_, rfl⟩
        rw [ht] at f3 hru
        obtain ⟨y, hy⟩ : ∃ y, F j = y := ⟨_, rfl⟩
        obtain ⟨y2, hy2⟩ : ∃ y, F (j + 1) = y := ⟨_, rfl⟩
        rw [hy] at q0 q1 q2 f3 hle hfr ⊢
        rw [hy2] at f3 hle hto
        have HY2 := hid hy2
        have HM := hid f3
        have HRu := hid hru
        have hy0 : 0 < y := by omega
        have hyb : y ≤ 10000000 := by omega
        obtain ⟨su, cu, rfl⟩ := hru.slice
        have HLk := hid hto
        have HQ2 := hid q2
        have HQ3 := hid q3
        have hy3 : ((y : Int) + 1 + 1) = ((y + 2 : Nat) : Int) := by omega
        have hy4 : ((y : Int) + 2) = ((y + 2 : Nat) : Int) := by omega
        have HY3 := hid hy3
        have HY4 := hid hy4
        clear hc c0 c1 c2 c3 f0 f1 f2 f3 ht hy hy2 hru hbel q3 hy3 hy4
        go_wp2_with fail
        go_region_with (go_at_call 110; (first | rw [HY3.out] | rw [HY4.out]); refine (markText_c (y + 2) _ (by omega) (by omega)).mono ?_; rintro e w2 ⟨rfl, hb2⟩; have HB2 := hid (HBe.out.drew.trans (hb2.mono HBe.out.drew.size)); have q3 := (hb2.cell (p := ⟨b, o + j * 4 + 3, none⟩) hgr).trans (show wr.drew.cell? ⟨b, o + j * 4 + 3, none⟩ = _ from HQ3.out); have q4 := (hb2.cell (p := ⟨b, o + j * 4 + 2, none⟩) hgr).trans (show wr.drew.cell? ⟨b, o + j * 4 + 2, none⟩ = _ from HQ2.out); clear hb2)
        all_goals
          go_wp2_with fail
          have hk3 : ((y : Int) + 2 + 1) = ((y + 3 : Nat) : Int) := by omega
          rw [hk3]
          refine (HI.out m (by omega) (y + 3) y2 _ t _ (HRu.out.on HB2.out) HM.out (by omega) (by have := HLk.out; omega)).mono ?_
          rintro e w3 ⟨rfl, hb3⟩
          have HB3 := hid (HB2.out.trans (hb3.mono HB2.out.size))
          clear hb3 hk3 q3 q4
          go_wp2_with fail
          go_roundw
          case rel => exact ⟨j + 1, by go_num, by rw [HY2.out], by omega, HB3.out⟩
          case measure => simp [intOf]; omega
      · obtain rfl : j = ks.length := by omega
        go_wp2_with fail
        go_ret
        exact ⟨rfl, HBe.out⟩
theorem heldTerm_c (n k k' : Nat) (t : Tm) (kv : Value) (w : World) (hr : KRd w n kv t.kids) (hm : Mk n k t.kids k') (h0 : 0 < k) (hk : k' ≤ 10000000) :
    Calls Tryd.prog 34 #[tmVal t kv, .int .i64 k] w fun e w' => e = .returned (.int .i64 k') ∧ Below w.heap.size w w' := by
  obtain ⟨a, cap, rfl⟩ := hr.slice
  have HR := hid hr
  have HM := hid hm
  clear hr hm
  obtain ⟨x0, x1, x2, lk, hp⟩ := Pt.of t
  rw [hp.val]
  rw [hp.l] at HR ⊢
  clear hp
  have HB0 := hid ((Below.refl w.heap.size w).alloc (Nat.le_refl _) (.cells #[.int .i64 x0, .int .i64 x1, .string x2, .slice a lk cap] 25))
  go_enter Tryd.func34, Tryd.ntmps34
  go_wp2_with fail
  refine (heldTermS_c n k k' _ _ _ (HR.out.on HB0.out) HM.out h0 hk).mono ?_
  rintro e w1 ⟨rfl, hb1⟩
  have HB1 := hid (HB0.out.trans (hb1.mono HB0.out.size))
  clear hb1
  go_wp2_with fail
  go_ret
  exact ⟨rfl, HB1.out⟩
end Go.Proofs.YtgenojpdjplccaaDoor.Um
