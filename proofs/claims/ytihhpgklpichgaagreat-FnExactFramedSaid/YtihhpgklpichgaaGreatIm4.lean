/- Whether an image is one, by the model · Whether an image is one, by the model: validImage, ImageOk. -/
import Derived.Test.YtihhpgklpichgaaGreatIm1
set_option linter.unusedSimpArgs false
set_option linter.unusedVariables false
namespace Go.Proofs.YtihhpgklpichgaaGreat.Im
open Go.RowKit Pl Ft Mm In C2

theorem inRange_byte (x : Int) : inRange x 0 255 = isByte x := by
  rw [Bool.eq_iff_iff, isByte_iff]
  simp [inRange]
theorem take_all (xs : List Int) (k : Nat) (h : k < xs.length) : xs.take (k + 1) = xs.take k ++ [xs.getD k 0] := by
  rw [List.take_succ_eq_append_getElem h]; simp [h]
def BytesTo (xs : List Int) (k : Nat) : Prop := (xs.take k).all isByte = true
theorem BytesTo.succ {xs : List Int} {k : Nat} (h : BytesTo xs k) (hk : k < xs.length) (hb : isByte (xs.getD k 0) = true) : BytesTo xs (k + 1) := by
  unfold BytesTo at h ⊢
  rw [take_all xs k hk, List.all_append, h]
  simp [-List.getD_eq_getElem?_getD, hb]
theorem bytes_no {xs : List Int} {k : Nat} (hk : k < xs.length) (hb : isByte (xs.getD k 0) = false) : xs.all isByte = false := by
  rw [List.all_eq_false]
  exact ⟨xs.getD k 0, by simp [hk], by rw [hb]; simp⟩
theorem sAreBytes_c (xs : List Int) (v : Value) (w : World) (h : Rd w v xs) (hl : xs.length ≤ 4611686018427387904) :
    Calls Tryz.prog 84 #[v] w fun e w' => e = .returned (.bool (xs.all isByte)) ∧ w = w' := by
  obtain ⟨a, ca, rfl, ha⟩ := h
  have HA := hid ha
  clear ha
  go_enter Tryz.func84, Tryz.ntmps84
  go_wp2
  go_loop [3] (fun c => ∃ k : Nat, c = .int .i64 k ∧ k ≤ xs.length ∧ BytesTo xs k) (fun c => xs.length - (intOf c).toNat)
  case atStart => exact ⟨0, rfl, by omega, rfl⟩
  case round =>
    obtain ⟨k, rfl, hk, hall⟩ := hrel
    have HAll := hid hall
    clear hall
    by_cases hlt : k < xs.length
    · rcases HA.out with h | ⟨g, o, rfl, hg, hc⟩
      · subst h; simp at hlt
      have q1 := hc k hlt
      clear hc
      obtain ⟨x, hx⟩ : ∃ x, xs.getD k 0 = x := ⟨_, rfl⟩
      rw [hx] at q1
      have HX := hid hx
      clear hx
      cases hb : isByte x
      · have HB := hid hb
        clear hb
        go_wp2_with (go_at_call 83; refine (inR_c _ _ _ _).mono ?_; rw [inRange_byte, HB.out]; rintro e w' ⟨rfl, rfl⟩)
        go_ret
        exact ⟨bool_eq (bytes_no (k := k) hlt (by rw [HX.out]; exact HB.out)).symm, rfl⟩
      · have HB := hid hb
        clear hb
        go_wp2_with (go_at_call 83; refine (inR_c _ _ _ _).mono ?_; rw [inRange_byte, HB.out]; rintro e w' ⟨rfl, rfl⟩)
        go_round
        case rel => exact ⟨k + 1, by go_num, by omega, HAll.out.succ hlt (by rw [HX.out]; exact HB.out)⟩
        case measure => simp [intOf]; omega
    · obtain rfl : k = xs.length := by omega
      have he : xs.all isByte = true := by have := HAll.out; rwa [BytesTo, List.take_length] at this
      have HE := hid he
      clear he
      go_wp2_with fail
      go_ret
      exact ⟨bool_eq HE.out.symm, rfl⟩
theorem sIsCode_c (xs : List Int) (v : Value) (w : World) (h : Rd w v xs) (hl : xs.length ≤ 4611686018427387904) :
    Calls Tryz.prog 82 #[v] w fun e w' => e = .returned (.bool (isCode xs)) ∧ w = w' := by
  obtain ⟨a, ca, rfl, ha⟩ := h
  have HA := hid ha
  clear ha
  go_enter Tryz.func82, Tryz.ntmps82
  go_wp2
  go_loop [3] (fun c => ∃ k : Nat, c = .int .i64 k ∧ k ≤ xs.length ∧ BytesTo xs k) (fun c => xs.length - (intOf c).toNat)
  case atStart => exact ⟨0, rfl, by omega, rfl⟩
  case round =>
    obtain ⟨k, rfl, hk, hall⟩ := hrel
    have HAll := hid hall
    clear hall
    by_cases hlt : k < xs.length
    · rcases HA.out with h | ⟨g, o, rfl, hg, hc⟩
      · subst h; simp at hlt
      have q1 := hc k hlt
      clear hc
      obtain ⟨x, hx⟩ : ∃ x, xs.getD k 0 = x := ⟨_, rfl⟩
      rw [hx] at q1
      have HX := hid hx
      clear hx
      cases hb : isByte x
      · have HB := hid hb
        clear hb
        go_wp2_with (go_at_call 83; refine (inR_c _ _ _ _).mono ?_; rw [inRange_byte, HB.out]; rintro e w' ⟨rfl, rfl⟩)
        go_ret
        exact ⟨bool_eq (by rw [isCode, bytes_no (k := k) hlt (by rw [HX.out]; exact HB.out)]; simp), rfl⟩
      · have HB := hid hb
        clear hb
        go_wp2_with (go_at_call 83; refine (inR_c _ _ _ _).mono ?_; rw [inRange_byte, HB.out]; rintro e w' ⟨rfl, rfl⟩)
        go_round
        case rel => exact ⟨k + 1, by go_num, by omega, HAll.out.succ hlt (by rw [HX.out]; exact HB.out)⟩
        case measure => simp [intOf]; omega
    · obtain rfl : k = xs.length := by omega
      have he : xs.all isByte = true := by have := HAll.out; rwa [BytesTo, List.take_length] at this
      have HE := hid he
      clear he
      go_wp2_with fail
      go_ret
      exact ⟨bool_eq (by rw [isCode, HE.out, Bool.and_true]; simp; omega), rfl⟩
theorem sIsName_q {s : ByteArray} {b : Bool} (h : isName s = b) (w : World) (hs : s.size ≤ 4611686018427387904) : Calls Tryz.prog 119 #[.string s] w fun e w' => e = .returned (.bool b) ∧ w' = w := by
  subst h
  exact (sIsName_c s w hs).mono fun e w' h => ⟨h.1, h.2.symm⟩
theorem inR_q {n l h : Int} {b : Bool} (hb : inRange n l h = b) (w : World) : Calls Tryz.prog 83 #[.int .i64 n, .int .i64 l, .int .i64 h] w fun e w' => e = .returned (.bool b) ∧ w' = w := by
  subst hb
  exact (inR_c n l h w).mono fun e w' h => ⟨h.1, h.2.symm⟩
theorem inRange_place (x : Int) (n : Nat) : inRange x 0 ((n : Int) - 1) = (decide (0 ≤ x) && decide (x < n)) := by
  rw [Bool.eq_iff_iff]
  simp [inRange]
  omega
structure SNamesRel (l : List Nm) (long : Nat) (w : World) (k : Nat) (wr : World) : Prop where
  le : k ≤ l.length
  ok : ∀ j, j < k → nmOk l long j = true
  wd : ∃ m, wr = w.drewN m
theorem SNamesRel.later {l : List Nm} {long : Nat} {w wr w1 : World} {k : Nat} (h : SNamesRel l long w k wr) (hk : k < l.length) (ht : nmOk l long k = true) (hw : ∃ m, w1 = w.drewN m) : SNamesRel l long w (k + 1) w1 := by
  refine ⟨by omega, fun j hj => ?_, hw⟩
  by_cases e : j = k
  · subst e; exact ht
  · exact h.ok j (by omega)
def NamesPost (b : Bool) (w : World) (e : Ending) (w' : World) : Prop := e = .returned (.bool b) ∧ Below w.heap.size w w'
theorem namesPost {b b' : Bool} {w wr : World} (hw : ∃ m, wr = w.drewN m) (h : b = b') : NamesPost b w (.returned (.bool b')) wr := by
  obtain ⟨m, rfl⟩ := hw
  exact ⟨bool_eq h.symm, below_drewN w m⟩
theorem wd_more {w wr : World} (hw : ∃ m, wr = w.drewN m) (n : Nat) : ∃ m, wr.drewN n = w.drewN m := by
  obtain ⟨m, rfl⟩ := hw
  exact ⟨m + n, World.drewN_drewN _ _ _⟩
theorem cell_wd {w wr : World} (hw : ∃ m, wr = w.drewN m) : ∀ p, wr.cell? p = w.cell? p := by
  obtain ⟨m, rfl⟩ := hw
  exact fun p => rfl
theorem take_getD (l : List Nm) {j k : Nat} (h : j < k) : ((l.take k).getD j .none).text = (l.getD j .none).text := by
  rw [List.getD_eq_getElem?_getD, List.getD_eq_getElem?_getD, List.getElem?_take_of_lt h]
set_option maxHeartbeats 2000000 in
theorem validNames_c (l : List Nm) (long : Nat) (v : Value) (w : World) (h : NRd w v l) (hl : l.length ≤ 1048576) (hlong : long ≤ 1048576) (ht8 : ∀ x ∈ l, x.text.size ≤ 1048576) :
    Calls Tryz.prog 85 #[v, .int .i64 long] w (NamesPost (namesOk l long) w) := by
  obtain ⟨a, cap, rfl, hn⟩ := h
  have HN := hid hn
  have HT8 := hid ht8
  clear hn ht8
  go_enter Tryz.func85, Tryz.ntmps85
  go_wp2_with fail
  go_loopw [5] (fun c wr => ∃ k : Nat, c = .int .i64 k ∧ SNamesRel l long w k wr) (fun c _ => l.length - (intOf c).toNat)
  case atStart => exact ⟨0, rfl, by omega, fun j hj => by omega, 0, rfl⟩
  case round =>
    obtain ⟨k, rfl, hrel⟩ := hrel
    have hk := hrel.le
    have HR := hid hrel
    have HCell := hid (cell_wd hrel.wd)
    clear hrel
    by_cases hlt : k < l.length
    · rcases HN.out with h | ⟨g, o, rfl, hg, hcs⟩
      · rw [h] at hlt; simp at hlt
      have HCs := hid hcs
      obtain ⟨q1, q2⟩ := hcs k hlt
      obtain ⟨t, ht⟩ : ∃ t, (l.getD k .none).text = t := ⟨_, rfl⟩
      obtain ⟨x, hx⟩ : ∃ t, (l.getD k .none).at_ = t := ⟨_, rfl⟩
      have hts : t.size ≤ 1048576 := by rw [← ht]; exact HT8.out _ (by simp [hlt])
      rw [ht, ← HCell.out] at q1
      rw [hx, ← HCell.out] at q2
      have HT := hid ht
      have HX := hid hx
      have hk1 : (k : Int) < l.length := by omega
      have hk0 : 0 ≤ (k : Int) := by omega
      have wl : IntKind.i64.wrap ((long : Int) - 1) = (long : Int) - 1 := IntWalk.i64_in _ (by omega)
      clear ht hx hcs
      cases hnm : isName t
      · have HNm := hid hnm
        have HNo := hid (namesOk_no (long := long) k hlt (by rw [nmOk, HT.out, hnm]; rfl))
        clear hnm
        go_wp2_with fail
        go_quiet ((go_at_call 119; exact Calls.quiet_of_same (sIsName_q HNm.out _ (by omega))))
        go_wp2_with fail
        go_ret
        exact namesPost (wd_more HR.out.wd _) HNo.out
      · have HNm := hid hnm
        clear hnm
        cases hin : inRange x 0 ((long : Int) - 1)
        · have HIn := hid hin
          have HNo := hid (namesOk_no (long := long) k hlt (by rw [nmOk, HX.out, ← inRange_place, hin]; simp))
          clear hin
          go_wp2_with fail
          go_quiet (first | (go_at_call 119; exact Calls.quiet_of_same (sIsName_q HNm.out _ (by omega))) | (go_at_call 83; exact Calls.quiet_of_same (inR_q HIn.out _)))
          go_wp2_with fail
          go_ret
          exact namesPost (wd_more HR.out.wd _) HNo.out
        · have HIn := hid hin
          have hx0 : 0 ≤ x := by
            rw [inRange_place] at hin
            simp only [Bool.and_eq_true, decide_eq_true_eq] at hin
            exact hin.1
          clear hin
          by_cases hz : k = 0
          · have HAsc := hid (show nmAsc l k = true by simp [nmAsc, hz])
            have hd : decide (0 < k) = false := by simp; omega
            have HZ := hid hz
            clear hz
            go_wp2_with fail
            go_quiet (first | (go_at_call 119; exact Calls.quiet_of_same (sIsName_q HNm.out _ (by omega))) | (go_at_call 83; exact Calls.quiet_of_same (inR_q HIn.out _)))
            clear wl q1 q2 hd
            go_wp2_with fail
            go_loopw [6] (fun c wx => ∃ j : Nat, c = .int .i64 j ∧ j ≤ k ∧ NoneTo (l.take k) t j ∧ (∃ m, wx = w.drewN m)) (fun c _ => k - (intOf c).toNat)
            case atStart => exact ⟨0, rfl, by omega, by simp [NoneTo, hasSame], wd_more HR.out.wd _⟩
            case round =>
              obtain ⟨j, rfl, hj, hno, hw⟩ := hrel
              have HNone := hid hno
              have HWd := hid hw
              have HCell2 := hid (cell_wd hw)
              clear hno hw
              by_cases hjk : j < k
              · obtain ⟨q1, _⟩ := HCs.out j (by omega)
                obtain ⟨q4, _⟩ := HCs.out k hlt
                obtain ⟨s2, hs2⟩ : ∃ s, (l.getD j .none).text = s := ⟨_, rfl⟩
                rw [hs2, ← HCell2.out] at q1
                rw [HT.out, ← HCell2.out] at q4
                have HS2 := hid ((take_getD l hjk).trans hs2)
                have j1 : (j : Int) < l.length := by omega
                have j0 : 0 ≤ (j : Int) := by omega
                clear hs2
                cases he : (s2.toList == t.toList)
                · have HE := hid he
                  go_wp2_with fail
                  go_quiet (fail)
                  clear he q1 q4
                  go_wp2_with fail
                  go_roundw
                  case rel => exact ⟨j + 1, by go_num, by omega, HNone.out.succ (by rw [List.length_take]; omega) (by rw [HS2.out]; exact HE.out), wd_more HWd.out _⟩
                  case measure => simp [intOf]; omega
                · have HNo := hid (namesOk_no (long := long) k hlt (by rw [nmOk, nmNew_eq, HT.out, hasSame_at (k := j) (by rw [List.length_take]; omega) (by rw [HS2.out]; exact he)]; simp))
                  go_wp2_with fail
                  go_quiet (fail)
                  clear he q1 q4
                  go_wp2_with fail
                  go_ret
                  exact namesPost (wd_more HWd.out _) HNo.out
              · obtain rfl : j = k := by omega
                have hn : hasSame (l.take j) t = false := by
                  have := HNone.out
                  rwa [NoneTo, List.take_take, Nat.min_self] at this
                have HOk := hid (show nmOk l long j = true by rw [nmOk, nmNew_eq, HT.out, HX.out, hn, HAsc.out, HNm.out, ← inRange_place, HIn.out]; rfl)
                clear hn
                go_wp2_with fail
                go_roundw
                case rel => exact ⟨j + 1, by go_num, HR.out.later hlt HOk.out HWd.out⟩
                case measure => simp [intOf]; omega
          · have hd : decide (0 < k) = true := by simp; omega
            obtain ⟨_, q3⟩ := HCs.out (k - 1) (by omega)
            obtain ⟨y, hy⟩ : ∃ t, (l.getD (k - 1) .none).at_ = t := ⟨_, rfl⟩
            rw [hy, ← HCell.out] at q3
            have HY := hid hy
            have wk : IntKind.i64.wrap ((k : Int) - 1) = (k : Int) - 1 := IntWalk.i64_in _ (by omega)
            have k10 : 0 ≤ (k : Int) - 1 := by omega
            have k11 : (k : Int) - 1 < l.length := by omega
            have kt : ((k : Int) - 1).toNat = k - 1 := by omega
            clear hy
            by_cases hle : x ≤ y
            · have HNo := hid (namesOk_no (long := long) k hlt (by rw [nmOk, nmAsc, HX.out, HY.out, decide_eq_false (by omega : ¬ y < x), beq_eq_false_iff_ne.2 hz]; simp))
              clear hz
              go_wp2_with fail
              go_quiet (first | (go_at_call 119; exact Calls.quiet_of_same (sIsName_q HNm.out _ (by omega))) | (go_at_call 83; exact Calls.quiet_of_same (inR_q HIn.out _)))
              clear wk kt wl
              go_wp2_with fail
              go_ret
              exact namesPost (wd_more HR.out.wd _) HNo.out
            · have HAsc := hid (show nmAsc l k = true by rw [nmAsc, HX.out, HY.out, decide_eq_true (by omega : y < x)]; simp)
              clear hz
              go_wp2_with fail
              go_quiet (first | (go_at_call 119; exact Calls.quiet_of_same (sIsName_q HNm.out _ (by omega))) | (go_at_call 83; exact Calls.quiet_of_same (inR_q HIn.out _)))
              clear wk kt wl q1 q2 q3 hd
              go_wp2_with fail
              go_loopw [6] (fun c wx => ∃ j : Nat, c = .int .i64 j ∧ j ≤ k ∧ NoneTo (l.take k) t j ∧ (∃ m, wx = w.drewN m)) (fun c _ => k - (intOf c).toNat)
              case atStart => exact ⟨0, rfl, by omega, by simp [NoneTo, hasSame], wd_more HR.out.wd _⟩
              case round =>
                obtain ⟨j, rfl, hj, hno, hw⟩ := hrel
                have HNone := hid hno
                have HWd := hid hw
                have HCell2 := hid (cell_wd hw)
                clear hno hw
                by_cases hjk : j < k
                · obtain ⟨q1, _⟩ := HCs.out j (by omega)
                  obtain ⟨q4, _⟩ := HCs.out k hlt
                  obtain ⟨s2, hs2⟩ : ∃ s, (l.getD j .none).text = s := ⟨_, rfl⟩
                  rw [hs2, ← HCell2.out] at q1
                  rw [HT.out, ← HCell2.out] at q4
                  have HS2 := hid ((take_getD l hjk).trans hs2)
                  have j1 : (j : Int) < l.length := by omega
                  have j0 : 0 ≤ (j : Int) := by omega
                  clear hs2
                  cases he : (s2.toList == t.toList)
                  · have HE := hid he
                    go_wp2_with fail
                    go_quiet (fail)
                    clear he q1 q4
                    go_wp2_with fail
                    go_roundw
                    case rel => exact ⟨j + 1, by go_num, by omega, HNone.out.succ (by rw [List.length_take]; omega) (by rw [HS2.out]; exact HE.out), wd_more HWd.out _⟩
                    case measure => simp [intOf]; omega
                  · have HNo := hid (namesOk_no (long := long) k hlt (by rw [nmOk, nmNew_eq, HT.out, hasSame_at (k := j) (by rw [List.length_take]; omega) (by rw [HS2.out]; exact he)]; simp))
                    go_wp2_with fail
                    go_quiet (fail)
                    clear he q1 q4
                    go_wp2_with fail
                    go_ret
                    exact namesPost (wd_more HWd.out _) HNo.out
                · obtain rfl : j = k := by omega
                  have hn : hasSame (l.take j) t = false := by
                    have := HNone.out
                    rwa [NoneTo, List.take_take, Nat.min_self] at this
                  have HOk := hid (show nmOk l long j = true by rw [nmOk, nmNew_eq, HT.out, HX.out, hn, HAsc.out, HNm.out, ← inRange_place, HIn.out]; rfl)
                  clear hn
                  go_wp2_with fail
                  go_roundw
                  case rel => exact ⟨j + 1, by go_num, HR.out.later hlt HOk.out HWd.out⟩
                  case measure => simp [intOf]; omega
    · obtain rfl : k = l.length := by omega
      by_cases h12 : l.length ≤ 12
      · have HY := hid (namesOk_yes (long := long) h12 HR.out.ok)
        go_wp2_with fail
        go_ret
        exact namesPost HR.out.wd (by rw [HY.out]; simp; omega)
      · have HY := hid (namesOk_long (l := l) (long := long) (by omega))
        go_wp2_with fail
        go_ret
        exact namesPost HR.out.wd (by rw [HY.out]; simp; omega)
end Go.Proofs.YtihhpgklpichgaaGreat.Im
namespace Go.Proofs.YtihhpgklpichgaaGreat.Im
open Go.RowKit Pl Ft Mm In C2

theorem imageOk_eq (m : Img) : imageOk m = (isCode m.code && (inRange m.entry 0 ((m.code.length : Int) - 1) && (inRange m.room 0 64 && (decide ((m.data.length : Int) ≤ m.room) && (m.data.all isByte && namesOk m.names m.code.length))))) := by
  unfold imageOk codeOk memOk
  rw [inRange_place]
  have e : inRange m.room 0 64 = (decide (0 ≤ m.room) && decide (m.room ≤ 64)) := by simp [inRange]
  rw [e]
  by_cases h : 0 < m.code.length
  · rw [decide_eq_true h]
    simp only [Bool.true_and, Bool.and_assoc]
  · have h0 : m.code.length = 0 := by omega
    rw [decide_eq_false h, h0]
    have : (decide (0 ≤ m.entry) && decide (m.entry < ((0 : Nat) : Int))) = false := by
      rw [Bool.and_eq_false_iff, decide_eq_false_iff_not, decide_eq_false_iff_not]
      omega
    rw [this]
    simp
set_option maxHeartbeats 1000000 in
theorem validImage_c (m : Img) (vc vd vn : Value) (w : World) (h : ICells w vc vd vn m) (hs : Sm m) :
    Calls Tryz.prog 45 #[imgVal vc vd vn m] w fun e w' => e = .returned (.bool (imageOk m)) ∧ Below w.heap.size w w' := by
  obtain ⟨ac, cc, rfl⟩ := rd_slice h.c
  obtain ⟨ad, cd, rfl⟩ := rd_slice h.d
  obtain ⟨an, cn, rfl⟩ := nrd_slice h.n
  have hlc := hs.c
  have hld := hs.d
  have hln := hs.n
  have HI := hid (h.alloc (.cells #[.slice ac m.code.length cc, .int .i64 m.entry, .int .i64 m.room, .slice ad m.data.length cd, .slice an m.names.length cn] 30))
  have HS := hid hs
  have HB0 := hid ((Below.refl w.heap.size w).alloc (Nat.le_refl _) (.cells #[.slice ac m.code.length cc, .int .i64 m.entry, .int .i64 m.room, .slice ad m.data.length cd, .slice an m.names.length cn] 30))
  have HQ := hid (imageOk_eq m)
  clear h hs
  have hV : imgVal (.slice ac m.code.length cc) (.slice ad m.data.length cd) (.slice an m.names.length cn) m = .agg #[.slice ac m.code.length cc, .int .i64 m.entry, .int .i64 m.room, .slice ad m.data.length cd, .slice an m.names.length cn] := rfl
  rw [hV]
  clear hV
  cases h1 : isCode m.code
  · have H1 := hid h1
    clear h1
    go_enter Tryz.func45, Tryz.ntmps45
    go_wp2_with (go_at_call 82; refine (sIsCode_c m.code _ _ HI.out.c (by omega)).mono ?_; rw [H1.out]; rintro e w' ⟨rfl, rfl⟩)
    go_ret
    exact ⟨bool_eq (by rw [HQ.out, H1.out]; rfl), HB0.out⟩
  have H1 := hid h1
  clear h1
  cases h2 : inRange m.entry 0 ((m.code.length : Int) - 1)
  · have H2 := hid h2
    clear h2
    go_enter Tryz.func45, Tryz.ntmps45
    go_wp2_with (first | (go_at_call 82; refine (sIsCode_c m.code _ _ HI.out.c (by omega)).mono ?_; rw [H1.out]; rintro e w' ⟨rfl, rfl⟩) | (go_at_call 83; refine (inR_c _ _ _ _).mono ?_; rw [H2.out]; rintro e w' ⟨rfl, rfl⟩))
    go_ret
    exact ⟨bool_eq (by rw [HQ.out, H1.out, H2.out]; rfl), HB0.out⟩
  have H2 := hid h2
  clear h2
  cases h3 : inRange m.room 0 64
  · have H3 := hid h3
    clear h3
    go_enter Tryz.func45, Tryz.ntmps45
    go_wp2_with (first | (go_at_call 82; refine (sIsCode_c m.code _ _ HI.out.c (by omega)).mono ?_; rw [H1.out]; rintro e w' ⟨rfl, rfl⟩) | (go_at_call 83; refine (inR_c _ _ _ _).mono ?_; (first | rw [H2.out] | rw [H3.out]); rintro e w' ⟨rfl, rfl⟩))
    go_ret
    exact ⟨bool_eq (by rw [HQ.out, H1.out, H2.out, H3.out]; rfl), HB0.out⟩
  have H3 := hid h3
  clear h3
  by_cases h4 : (m.data.length : Int) ≤ m.room
  · have H4 := hid h4
    cases h5 : m.data.all isByte
    · have H5 := hid h5
      clear h5
      go_enter Tryz.func45, Tryz.ntmps45
      go_wp2_with (first | (go_at_call 82; refine (sIsCode_c m.code _ _ HI.out.c (by omega)).mono ?_; rw [H1.out]; rintro e w' ⟨rfl, rfl⟩) | (go_at_call 83; refine (inR_c _ _ _ _).mono ?_; (first | rw [H2.out] | rw [H3.out]); rintro e w' ⟨rfl, rfl⟩) | (go_at_call 84; refine (sAreBytes_c m.data _ _ HI.out.d (by omega)).mono ?_; rw [H5.out]; rintro e w' ⟨rfl, rfl⟩))
      go_ret
      exact ⟨bool_eq (by rw [HQ.out, H1.out, H2.out, H3.out, H5.out]; simp), HB0.out⟩
    · have H5 := hid h5
      clear h5
      go_enter Tryz.func45, Tryz.ntmps45
      go_wp2_with (first | (go_at_call 82; refine (sIsCode_c m.code _ _ HI.out.c (by omega)).mono ?_; rw [H1.out]; rintro e w' ⟨rfl, rfl⟩) | (go_at_call 83; refine (inR_c _ _ _ _).mono ?_; (first | rw [H2.out] | rw [H3.out]); rintro e w' ⟨rfl, rfl⟩) | (go_at_call 84; refine (sAreBytes_c m.data _ _ HI.out.d (by omega)).mono ?_; rw [H5.out]; rintro e w' ⟨rfl, rfl⟩))
      refine (validNames_c m.names m.code.length _ _ HI.out.n hln hlc HS.out.t).mono ?_
      rintro e w1 ⟨rfl, hb1⟩
      have HB1 := hid (HB0.out.trans (hb1.mono HB0.out.size))
      clear hb1
      go_wp2_with fail
      go_ret
      exact ⟨bool_eq (by rw [HQ.out, H1.out, H2.out, H3.out, H5.out, decide_eq_true H4.out]; simp), HB1.out⟩
  · have H4 := hid h4
    go_enter Tryz.func45, Tryz.ntmps45
    go_wp2_with (first | (go_at_call 82; refine (sIsCode_c m.code _ _ HI.out.c (by omega)).mono ?_; rw [H1.out]; rintro e w' ⟨rfl, rfl⟩) | (go_at_call 83; refine (inR_c _ _ _ _).mono ?_; (first | rw [H2.out] | rw [H3.out]); rintro e w' ⟨rfl, rfl⟩))
    go_ret
    exact ⟨bool_eq (by rw [HQ.out, H1.out, H2.out, H3.out, decide_eq_false (by have := H4.out; omega : ¬ (m.data.length : Int) ≤ m.room)]; simp), HB0.out⟩
end Go.Proofs.YtihhpgklpichgaaGreat.Im
