/- The form of a name: isName of the program and of the model · Whether an image is one, by the program: hasPlace, codeOk, memoryOk, namesOk, ImageOk · Whether an image is one, by the program: namesOk, ImageOk. -/
import Derived.Test.YtihhpgklpichgaaGreatImg
import Derived.Test.YtihhpgklpichgaaGreatC2t
set_option linter.unusedSimpArgs false
set_option linter.unusedVariables false
namespace Go.Proofs.YtihhpgklpichgaaGreat.Im
open Go.RowKit Pl Ft Mm In C2

theorem small_c (c : Nat) (hc : c < 256) (w : World) : Calls Tryz.prog 171 #[.int .u8 c] w fun e w' => e = .returned (.bool (small c)) ∧ w = w' := by
  by_cases h1 : 97 ≤ c
  · by_cases h2 : c ≤ 122
    all_goals
      go_enter Tryz.func171, Tryz.ntmps171
      go_wp2_with fail
      go_ret
      exact ⟨bool_eq (by simp [small, h1, h2]; omega), rfl⟩
  · go_enter Tryz.func171, Tryz.ntmps171
    go_wp2_with fail
    go_ret
    exact ⟨bool_eq (by simp [small, h1]), rfl⟩
theorem digit_c (c : Nat) (hc : c < 256) (w : World) : Calls Tryz.prog 172 #[.int .u8 c] w fun e w' => e = .returned (.bool (digit c)) ∧ w = w' := by
  by_cases h1 : 48 ≤ c
  · by_cases h2 : c ≤ 57
    all_goals
      go_enter Tryz.func172, Tryz.ntmps172
      go_wp2_with fail
      go_ret
      exact ⟨bool_eq (by simp [digit, h1, h2]; omega), rfl⟩
  · go_enter Tryz.func172, Tryz.ntmps172
    go_wp2_with fail
    go_ret
    exact ⟨bool_eq (by simp [digit, h1]), rfl⟩
def AllTo (s : ByteArray) (k : Nat) : Prop := ∀ j (h : j < s.size), j < k → letterOk (s[j].toNat) = true
theorem AllTo.zero (s : ByteArray) : AllTo s 0 := fun j _ hj => by omega
theorem AllTo.succ {s : ByteArray} {k : Nat} (h : AllTo s k) (hk : k < s.size) (hc : letterOk (s[k].toNat) = true) : AllTo s (k + 1) := by
  intro j hj hlt
  by_cases e : j = k
  · subst e; exact hc
  · exact h j hj (by omega)
theorem u8_lt (u : UInt8) : u.toNat < 256 := u.toNat_lt
set_option maxHeartbeats 800000 in
theorem isName_c (s : ByteArray) (w : World) (hs : s.size ≤ 4611686018427387904) : Calls Tryz.prog 147 #[.string s] w fun e w' => e = .returned (.bool (isName s)) ∧ w = w' := by
  by_cases h1 : s.size < 1
  · have HN := hid (isName_size (.inl h1))
    go_enter Tryz.func147, Tryz.ntmps147
    go_wp2_with fail
    go_ret
    exact ⟨bool_eq HN.out.symm, rfl⟩
  · by_cases h8 : 8 < s.size
    · have HN := hid (isName_size (.inr h8))
      go_enter Tryz.func147, Tryz.ntmps147
      go_wp2_with fail
      go_ret
      exact ⟨bool_eq HN.out.symm, rfl⟩
    · have h0 : 0 < s.size := by omega
      cases hf : small (s[0].toNat)
      · have HN := hid (isName_first h0 hf)
        have HF := hid hf
        clear hf
        go_enter Tryz.func147, Tryz.ntmps147
        go_wp2_with (go_at_call 171; refine (small_c _ (u8_lt _) _).mono ?_; rw [HF.out]; rintro e w' ⟨rfl, rfl⟩)
        go_ret
        exact ⟨bool_eq HN.out.symm, rfl⟩
      · have HF := hid hf
        clear hf
        go_enter Tryz.func147, Tryz.ntmps147
        go_wp2_with (go_at_call 171; refine (small_c _ (u8_lt _) _).mono ?_; rw [HF.out]; rintro e w' ⟨rfl, rfl⟩)
        go_loop [20] (fun c => ∃ k : Nat, c = .int .i64 k ∧ k ≤ s.size ∧ AllTo s k) (fun c => s.size - (intOf c).toNat)
        case atStart => exact ⟨0, rfl, by omega, AllTo.zero s⟩
        case round =>
          obtain ⟨k, rfl, hk, hall⟩ := hrel
          have HA := hid hall
          clear hall
          by_cases hlt : k < s.size
          · cases h2 : small (s[k].toNat)
            · have H2 := hid h2
              clear h2
              cases h3 : digit (s[k].toNat)
              · have H3 := hid h3
                clear h3
                go_wp2_with (first | (go_at_call 171; refine (small_c _ (u8_lt _) _).mono ?_; rw [H2.out]; rintro e w' ⟨rfl, rfl⟩) | (go_at_call 172; refine (digit_c _ (u8_lt _) _).mono ?_; rw [H3.out]; rintro e w' ⟨rfl, rfl⟩))
                go_ret
                exact ⟨bool_eq (isName_at k hlt (by rw [letterOk, H2.out, H3.out]; rfl)).symm, rfl⟩
              · have H3 := hid h3
                clear h3
                go_wp2_with (first | (go_at_call 171; refine (small_c _ (u8_lt _) _).mono ?_; rw [H2.out]; rintro e w' ⟨rfl, rfl⟩) | (go_at_call 172; refine (digit_c _ (u8_lt _) _).mono ?_; rw [H3.out]; rintro e w' ⟨rfl, rfl⟩))
                go_round
                case rel => exact ⟨k + 1, by go_num, by omega, HA.out.succ hlt (by rw [letterOk, H2.out, H3.out]; rfl)⟩
                case measure => simp [intOf]; omega
            · have H2 := hid h2
              clear h2
              go_wp2_with (go_at_call 171; refine (small_c _ (u8_lt _) _).mono ?_; rw [H2.out]; rintro e w' ⟨rfl, rfl⟩)
              go_round
              case rel => exact ⟨k + 1, by go_num, by omega, HA.out.succ hlt (by rw [letterOk, H2.out]; rfl)⟩
              case measure => simp [intOf]; omega
          · obtain rfl : k = s.size := by omega
            have hy := isName_yes (s := s) (by omega) (by omega) HF.out (fun j hj => HA.out j hj hj)
            have HY := hid hy
            clear hy
            go_wp2_with fail
            go_ret
            exact ⟨bool_eq HY.out.symm, rfl⟩
/-- The model goes through the letters first. -/
def SomeTo (s : ByteArray) (k : Nat) : Prop := AllTo s k ∧ (0 < k → ∀ h : 0 < s.size, small (s[0].toNat) = true)
theorem small_iff {c : Nat} : small c = true ↔ 97 ≤ c ∧ c ≤ 122 := by simp [small]
theorem digit_iff {c : Nat} : digit c = true ↔ 48 ≤ c ∧ c ≤ 57 := by simp [digit]
theorem SomeTo.succ {s : ByteArray} {k : Nat} (h : SomeTo s k) (hk : k < s.size) (hc : letterOk (s[k].toNat) = true) (hf : small (s[k].toNat) = true ∨ 0 < k) : SomeTo s (k + 1) := by
  refine ⟨h.1.succ hk hc, fun _ h0 => ?_⟩
  by_cases e : k = 0
  · subst e
    rcases hf with hf | hf
    · exact hf
    · omega
  · exact h.2 (by omega) h0
theorem isName_no {s : ByteArray} {k : Nat} (hk : k < s.size) (h1 : small (s[k].toNat) = false) (h2 : k = 0 ∨ digit (s[k].toNat) = false) : isName s = false := by
  rcases h2 with rfl | h2
  · exact isName_first hk h1
  · exact isName_at k hk (by rw [letterOk, h1, h2]; rfl)
theorem isName_end {s : ByteArray} (h : SomeTo s s.size) : inRange s.size 1 8 = isName s := by
  by_cases h1 : 1 ≤ s.size
  · by_cases h8 : s.size ≤ 8
    · rw [isName_yes h1 h8 (h.2 (by omega) (by omega)) (fun j hj => h.1 j hj hj)]
      simp [inRange]; omega
    · rw [isName_size (.inr (by omega))]
      simp [inRange]; omega
  · rw [isName_size (.inl (by omega))]
    simp [inRange]; omega
set_option maxHeartbeats 800000 in
theorem sIsName_c (s : ByteArray) (w : World) (hs : s.size ≤ 4611686018427387904) : Calls Tryz.prog 119 #[.string s] w fun e w' => e = .returned (.bool (isName s)) ∧ w = w' := by
  go_enter Tryz.func119, Tryz.ntmps119
  go_wp2
  go_loop [3] (fun c => ∃ k : Nat, c = .int .i64 k ∧ k ≤ s.size ∧ SomeTo s k) (fun c => s.size - (intOf c).toNat)
  case atStart => exact ⟨0, rfl, by omega, AllTo.zero s, fun h => by omega⟩
  case round =>
    obtain ⟨k, rfl, hk, hall⟩ := hrel
    have HA := hid hall
    clear hall
    by_cases hlt : k < s.size
    · have hu := u8_lt s[k]
      cases h2 : small (s[k].toNat)
      · have H2 := hid h2
        have h2' : s[k].toNat < 97 ∨ 122 < s[k].toNat := by simp [small] at h2; omega
        clear h2
        by_cases h0 : k = 0
        · have HN := hid (isName_no hlt H2.out (.inl h0))
          subst h0
          rcases h2' with h2' | h2'
          · go_wp2_with fail
            go_ret
            exact ⟨bool_eq HN.out.symm, rfl⟩
          · have h97 : 97 ≤ s[0].toNat := by omega
            have hd : decide ((s[0].toNat : Int) ≤ 122) = false := by simp; omega
            go_wp2_with fail
            go_ret
            exact ⟨bool_eq HN.out.symm, rfl⟩
        · have hne : ((k : Int) == 0) = false := by simpa using h0
          cases h3 : digit (s[k].toNat)
          · have HN := hid (isName_no hlt H2.out (.inr h3))
            have h3' : s[k].toNat < 48 ∨ (48 ≤ s[k].toNat ∧ 57 < s[k].toNat) := by simp [digit] at h3; omega
            clear h3
            rcases h2' with h2' | h2'
            · rcases h3' with h3' | ⟨h3', h3''⟩
              all_goals
                go_wp2_with fail
                go_ret
                exact ⟨bool_eq HN.out.symm, rfl⟩
            · have h97 : 97 ≤ s[k].toNat := by omega
              have h48 : 48 ≤ s[k].toNat := by omega
              have h57 : 57 < s[k].toNat := by omega
              have hd : decide ((s[k].toNat : Int) ≤ 122) = false := by simp; omega
              clear h3'
              go_wp2_with fail
              go_ret
              exact ⟨bool_eq HN.out.symm, rfl⟩
          · have HS := hid (HA.out.succ hlt (by rw [letterOk, H2.out, h3]; rfl) (.inr (by omega)))
            obtain ⟨h48, h57⟩ := digit_iff.1 h3
            have h97 : s[k].toNat < 97 := by omega
            clear h3 h2'
            go_wp2_with fail
            go_round
            case rel => exact ⟨k + 1, by go_num, by omega, HS.out⟩
            case measure => simp [intOf]; omega
      · have HS := hid (HA.out.succ hlt (by rw [letterOk, h2]; rfl) (.inl h2))
        obtain ⟨h97, h122⟩ := small_iff.1 h2
        clear h2
        go_wp2_with fail
        go_round
        case rel => exact ⟨k + 1, by go_num, by omega, HS.out⟩
        case measure => simp [intOf]; omega
    · obtain rfl : k = s.size := by omega
      have he := isName_end HA.out
      have HE := hid he
      clear he
      go_wp2_with (go_at_call 83; refine (inR_c _ _ _ _).mono ?_; rw [HE.out]; rintro e w' ⟨rfl, rfl⟩)
      go_ret
      exact ⟨rfl, rfl⟩
end Go.Proofs.YtihhpgklpichgaaGreat.Im
namespace Go.Proofs.YtihhpgklpichgaaGreat.Im
open Go.RowKit Pl Ft Mm In C2

theorem hasPlace_c (m : Img) (vc vd vn : Value) (x : Int) (w : World) (h : ICells w vc vd vn m) (hs : Sm m) :
    Calls Tryz.prog 144 #[imgVal vc vd vn m, .int .i64 x] w fun e w' => e = .returned (.bool (decide (0 ≤ x) && decide (x < m.code.length))) ∧ Below w.heap.size w w' := by
  obtain ⟨a, cap, rfl⟩ := rd_slice h.c
  have hc := hs.c
  have HS := hid hs
  have HI := hid h
  clear h hs
  unfold imgVal
  by_cases h0 : 0 ≤ x
  all_goals
    go_enter Tryz.func144, Tryz.ntmps144
    go_wp2_with fail
    go_ret
    exact ⟨bool_eq (by simp [h0]; try (intros; omega)), (Below.refl _ _).alloc (Nat.le_refl _) _⟩
theorem codeOk_c (m : Img) (vc vd vn : Value) (w : World) (h : ICells w vc vd vn m) (hs : Sm m) :
    Calls Tryz.prog 122 #[imgVal vc vd vn m] w fun e w' => e = .returned (.bool (codeOk m)) ∧ Below w.heap.size w w' := by
  obtain ⟨a, cap, rfl⟩ := rd_slice h.c
  have hc := hs.c
  have HS := hid hs
  have HI := hid h
  have HB0 := hid ((Below.refl w.heap.size w).alloc (Nat.le_refl _) (.cells #[.slice a m.code.length cap, .int .i64 m.entry, .int .i64 m.room, vd, vn] 30))
  clear h hs
  unfold imgVal
  by_cases h0 : 0 < m.code.length
  · cases h1 : isCode m.code
    · have H1 := hid h1
      clear h1
      go_enter Tryz.func122, Tryz.ntmps122
      go_wp2_with (go_at_call 143; refine (isCode_c _ _ _ (HI.out.alloc _).c (by omega)).mono ?_; rw [H1.out]; rintro e w' ⟨rfl, rfl⟩)
      go_ret
      exact ⟨bool_eq (by simp [codeOk, H1.out]; try (intros; omega)), HB0.out⟩
    · have H1 := hid h1
      clear h1
      go_enter Tryz.func122, Tryz.ntmps122
      go_wp2_with (go_at_call 143; refine (isCode_c _ _ _ (HI.out.alloc _).c (by omega)).mono ?_; rw [H1.out]; rintro e w' ⟨rfl, rfl⟩)
      refine (hasPlace_c m _ vd vn _ _ (HI.out.alloc _) HS.out).mono ?_
      rintro e w1 ⟨rfl, hb1⟩
      have HB1 := hid (HB0.out.trans (hb1.mono (by simp)))
      clear hb1
      go_wp2_with fail
      go_ret
      exact ⟨bool_eq (by simp [codeOk, h0, H1.out]; try (intros; omega)), HB1.out⟩
  · go_enter Tryz.func122, Tryz.ntmps122
    go_wp2_with fail
    go_ret
    exact ⟨bool_eq (by simp [codeOk, h0]; try (intros; omega)), HB0.out⟩
theorem memOk_c (m : Img) (vc vd vn : Value) (w : World) (h : ICells w vc vd vn m) (hs : Sm m) :
    Calls Tryz.prog 123 #[imgVal vc vd vn m] w fun e w' => e = .returned (.bool (memOk m)) ∧ Below w.heap.size w w' := by
  obtain ⟨a, cap, rfl⟩ := rd_slice h.d
  have hc := hs.d
  have HS := hid hs
  have HI := hid h
  have HB0 := hid ((Below.refl w.heap.size w).alloc (Nat.le_refl _) (.cells #[vc, .int .i64 m.entry, .int .i64 m.room, .slice a m.data.length cap, vn] 30))
  clear h hs
  unfold imgVal
  by_cases h0 : 0 ≤ m.room
  · by_cases h1 : m.room ≤ 64
    · by_cases h2 : (m.data.length : Int) ≤ m.room
      · go_enter Tryz.func123, Tryz.ntmps123
        go_wp2_with (go_at_call 145; refine (areBytes_c _ _ _ (HI.out.alloc _).d (by omega)).mono ?_; rintro e w' ⟨rfl, rfl⟩)
        go_ret
        exact ⟨bool_eq (by simp [memOk, h0, h1, h2]; try (intros; omega)), HB0.out⟩
      · go_enter Tryz.func123, Tryz.ntmps123
        go_wp2_with fail
        go_ret
        exact ⟨bool_eq (by simp [memOk, h0, h1, h2]; try (intros; omega)), HB0.out⟩
    · go_enter Tryz.func123, Tryz.ntmps123
      go_wp2_with fail
      go_ret
      exact ⟨bool_eq (by simp [memOk, h0, h1]; try (intros; omega)), HB0.out⟩
  · go_enter Tryz.func123, Tryz.ntmps123
    go_wp2_with fail
    go_ret
    exact ⟨bool_eq (by simp [memOk, h0]; try (intros; omega)), HB0.out⟩
end Go.Proofs.YtihhpgklpichgaaGreat.Im
namespace Go.Proofs.YtihhpgklpichgaaGreat.Im
open Go.RowKit Pl Ft Mm In C2

theorem isSame_c (o : Nm) (s : ByteArray) (g : Nat) (w : World) (hg : g < w.heap.size) (hc : w.cell? ⟨g, 0, none⟩ = some (.string s)) :
    Calls Tryz.prog 146 #[.agg #[.string o.text, .int .i64 o.at_], .pointer (some ⟨g, 0, none⟩)] w fun e w' => e = .returned (.bool (o.text.toList == s.toList)) ∧ Below w.heap.size w w' := by
  go_enter Tryz.func146, Tryz.ntmps146
  go_wp2_with fail
  go_ret
  exact ⟨rfl, (Below.refl _ _).alloc (Nat.le_refl _) _⟩
def hasSame (l : List Nm) (s : ByteArray) : Bool := l.any fun m => m.text.toList == s.toList
def NoneTo (l : List Nm) (s : ByteArray) (k : Nat) : Prop := hasSame (l.take k) s = false
theorem NoneTo.succ {l : List Nm} {s : ByteArray} {k : Nat} (h : NoneTo l s k) (hk : k < l.length) (hc : ((l.getD k .none).text.toList == s.toList) = false) : NoneTo l s (k + 1) := by
  have e : l.getD k .none = l[k] := by simp [hk]
  rw [e] at hc
  unfold NoneTo hasSame at h ⊢
  rw [List.take_succ_eq_append_getElem hk, List.any_append, h]
  simpa using hc
theorem hasSame_at {l : List Nm} {s : ByteArray} {k : Nat} (hk : k < l.length) (hc : ((l.getD k .none).text.toList == s.toList) = true) : hasSame l s = true := by
  have e : l.getD k .none = l[k] := by simp [hk]
  rw [e] at hc
  exact List.any_eq_true.2 ⟨l[k], List.getElem_mem hk, hc⟩
def IdxPost (l : List Nm) (s : ByteArray) (w : World) (e : Ending) (w' : World) : Prop := ∃ x : Int, e = .returned (.int .i64 x) ∧ -1 ≤ x ∧ decide (0 ≤ x) = hasSame l s ∧ Below w.heap.size w w'
set_option maxHeartbeats 800000 in
theorem indexSame_c (l : List Nm) (v : Value) (s : ByteArray) (g : Nat) (w : World) (hr : NRd w v l) (hl : l.length ≤ 1048576) (hg : g < w.heap.size) (hc : w.cell? ⟨g, 0, none⟩ = some (.string s)) :
    Calls Tryz.prog 173 #[v, .func (.func 146) #[] #[.pointer (some ⟨g, 0, none⟩)]] w (IdxPost l s w) := by
  obtain ⟨a, cap, rfl, ha⟩ := hr
  have HA := hid ha
  have HC := hid hc
  clear ha hc
  go_enter Tryz.func173, Tryz.ntmps173
  go_wp2_with fail
  go_loopw [8] (fun c wr => ∃ k : Nat, c = .int .i64 k ∧ k ≤ l.length ∧ NoneTo l s k ∧ Below w.heap.size w wr) (fun c _ => l.length - (intOf c).toNat)
  case atStart => exact ⟨0, rfl, by omega, by simp [NoneTo, hasSame], Below.refl _ _⟩
  case round =>
    obtain ⟨k, rfl, hk, hno, hb⟩ := hrel
    have HB := hid hb
    have HNo := hid hno
    have hz := hb.size
    clear hb hno
    by_cases hlt : k < l.length
    · rcases HA.out with h | ⟨g2, o, rfl, hg2, hcs⟩
      · subst h; simp at hlt
      obtain ⟨h1, h2⟩ := hcs k hlt
      have q1 : wr.cell? ⟨g2, o + k * 2, none⟩ = some (.string (l.getD k .none).text) := (HB.out.cell (p := ⟨g2, o + k * 2, none⟩) hg2).trans h1
      have q2 : wr.cell? ⟨g2, o + k * 2 + 1, none⟩ = some (.int .i64 (l.getD k .none).at_) := (HB.out.cell (p := ⟨g2, o + k * 2 + 1, none⟩) hg2).trans h2
      obtain ⟨t, ht⟩ : ∃ t, (l.getD k .none).text = t := ⟨_, rfl⟩
      obtain ⟨x, hx⟩ : ∃ t, (l.getD k .none).at_ = t := ⟨_, rfl⟩
      rw [ht] at q1
      rw [hx] at q2
      have HT := hid ht
      clear h1 h2 hcs ht hx
      go_wp2_with fail
      refine (isSame_c ⟨t, x⟩ s g _ (by omega) ((HB.out.cell (p := ⟨g, 0, none⟩) hg).trans HC.out)).mono ?_
      rintro e w1 ⟨rfl, hb1⟩
      have HB1 := hid (HB.out.trans (hb1.mono HB.out.size))
      clear hb1
      cases he : (t.toList == s.toList)
      · have HE := hid he
        clear he
        go_wp2_with fail
        go_roundw
        case rel => exact ⟨k + 1, by go_num, by omega, HNo.out.succ hlt (by rw [HT.out]; exact HE.out), HB1.out⟩
        case measure => simp [intOf]; omega
      · have HE := hid he
        clear he
        go_wp2_with fail
        go_ret
        exact ⟨k, rfl, by omega, by rw [hasSame_at hlt (by rw [HT.out]; exact HE.out)]; simp, HB1.out⟩
    · obtain rfl : k = l.length := by omega
      have hn : hasSame l s = false := by have := HNo.out; rwa [NoneTo, List.take_length] at this
      have HN := hid hn
      clear hn
      go_wp2_with fail
      go_ret
      exact ⟨-1, rfl, by omega, by rw [HN.out]; simp, HB.out⟩
theorem hasSame_c (l : List Nm) (v : Value) (s : ByteArray) (g : Nat) (w : World) (hr : NRd w v l) (hl : l.length ≤ 1048576) (hg : g < w.heap.size) (hc : w.cell? ⟨g, 0, none⟩ = some (.string s)) :
    Calls Tryz.prog 148 #[v, .func (.func 146) #[] #[.pointer (some ⟨g, 0, none⟩)]] w fun e w' => e = .returned (.bool (hasSame l s)) ∧ Below w.heap.size w w' := by
  have HR := hid hr
  have HC := hid hc
  clear hr hc
  go_enter Tryz.func148, Tryz.ntmps148
  go_wp2_with fail
  refine (indexSame_c l v s g _ HR.out hl hg HC.out).mono ?_
  rintro e w1 ⟨x, rfl, hx, hd, hb⟩
  have HB := hid hb
  have HD := hid hd
  clear hb hd
  go_wp2_with fail
  go_ret
  exact ⟨bool_eq (by rw [← HD.out]), HB.out⟩
def lastAt (l : List Nm) (k : Nat) : Int := if k = 0 then -1 else (l.getD (k - 1) .none).at_
theorem asc_iff (l : List Nm) (k : Nat) (h0 : 0 ≤ (l.getD k .none).at_) : nmAsc l k = !decide ((l.getD k .none).at_ ≤ lastAt l k) := by
  unfold nmAsc lastAt
  by_cases hk : k = 0
  · subst hk
    have h1 : ¬ (l.getD 0 .none).at_ ≤ -1 := by omega
    rw [if_pos rfl, decide_eq_false h1]
    rfl
  · have h1 : (k == 0) = false := by simpa using hk
    rw [if_neg hk, h1, Bool.false_or]
    by_cases h2 : (l.getD (k - 1) .none).at_ < (l.getD k .none).at_
    · rw [decide_eq_true h2, decide_eq_false (by omega)]; rfl
    · rw [decide_eq_false h2, decide_eq_true (by omega)]; rfl
theorem nmNew_eq (l : List Nm) (k : Nat) : nmNew l k = !hasSame (l.take k) (l.getD k .none).text := by
  unfold nmNew hasSame
  rw [List.not_any_eq_all_not]
structure NamesRel (m : Img) (vc vd vn : Value) (w : World) (k : Nat) (last : Value) (wr : World) : Prop where
  le : k ≤ m.names.length
  ok : ∀ j, j < k → nmOk m.names m.code.length j = true
  last : last = .int .i64 (lastAt m.names k)
  box : Row wr w.heap.size 30 #[vc, .int .i64 m.entry, .int .i64 m.room, vd, vn]
  bel : Below w.heap.size w wr
theorem NamesRel.later {m : Img} {vc vd vn : Value} {w : World} {k : Nat} {last : Value} {wr w1 : World} (h : NamesRel m vc vd vn w k last wr) (hk : k < m.names.length) (ht : nmOk m.names m.code.length k = true) (hb : Below wr.heap.size wr w1) : NamesRel m vc vd vn w (k + 1) (.int .i64 (m.names.getD k .none).at_) w1 := by
  refine ⟨by omega, fun j hj => ?_, by simp [lastAt], h.box.on hb, h.bel.trans (hb.mono h.bel.size)⟩
  by_cases e : j = k
  · subst e; exact ht
  · exact h.ok j (by omega)
set_option maxHeartbeats 2000000 in
theorem namesOk_c (m : Img) (vc vd vn : Value) (w : World) (h : ICells w vc vd vn m) (hs : Sm m) :
    Calls Tryz.prog 124 #[imgVal vc vd vn m] w fun e w' => e = .returned (.bool (namesOk m.names m.code.length)) ∧ Below w.heap.size w w' := by
  obtain ⟨a, cap, rfl, hn⟩ := h.n
  have hcap := h.cap.of
  have hl := hs.n
  have HI := hid h
  have HS := hid hs
  have HN := hid hn
  clear h hs hn
  unfold imgVal
  by_cases h12 : 12 < m.names.length
  · have HNo := hid (namesOk_long (long := m.code.length) h12)
    go_enter Tryz.func124, Tryz.ntmps124
    go_wp2_with fail
    go_ret
    exact ⟨bool_eq HNo.out.symm, (Below.refl _ _).alloc (Nat.le_refl _) _⟩
  · go_enter Tryz.func124, Tryz.ntmps124
    go_wp2_with fail
    go_loopw [3, 14] (fun last c wr => ∃ k : Nat, c = .int .i64 k ∧ NamesRel m vc vd (.slice a m.names.length cap) w k last wr) (fun _ c _ => m.names.length - (intOf c).toNat)
    case atStart => exact ⟨0, rfl, by omega, fun j hj => by omega, rfl, Row.new w _ _, (Below.refl _ _).alloc (Nat.le_refl _) _⟩
    case round =>
      obtain ⟨k, rfl, hrel⟩ := hrel
      have hk := hrel.le
      obtain rfl := hrel.last
      have HR := hid hrel
      have hz := hrel.box.lt
      clear hrel
      by_cases hlt : k < m.names.length
      · rcases HN.out with h | ⟨g2, o, rfl, hg2, hcs⟩
        · rw [h] at hlt; simp at hlt
        have HCs := hid hcs
        obtain ⟨h1, h2⟩ := hcs k hlt
        have q1 : wr.cell? ⟨g2, o + k * 2, none⟩ = some (.string (m.names.getD k .none).text) := (HR.out.bel.cell (p := ⟨g2, o + k * 2, none⟩) hg2).trans h1
        have q2 : wr.cell? ⟨g2, o + k * 2 + 1, none⟩ = some (.int .i64 (m.names.getD k .none).at_) := (HR.out.bel.cell (p := ⟨g2, o + k * 2 + 1, none⟩) hg2).trans h2
        obtain ⟨t, ht⟩ : ∃ t, (m.names.getD k .none).text = t := ⟨_, rfl⟩
        obtain ⟨x, hx⟩ : ∃ t, (m.names.getD k .none).at_ = t := ⟨_, rfl⟩
        have hts := HS.out.at_ k hlt
        rw [ht] at q1 hts
        rw [hx] at q2
        have HT := hid ht
        have HX := hid hx
        have b4 := HR.out.box.cell 4
        have b3 := HR.out.box.cell 3
        have b2 := HR.out.box.cell 2
        have b1 := HR.out.box.cell 1
        have b0 := HR.out.box.cell 0
        simp at b0 b1 b2 b3 b4
        have hb0 := HR.out.box.free
        clear h1 h2 hcs ht hx
        go_wp2_with fail
        refine (isName_c t _ (by omega)).mono ?_
        rintro e w' ⟨rfl, rfl⟩
        have HRn := hid (Row.new wr 105 #[.string t, .int .i64 x])
        have HW1 := hid ((Below.refl wr.heap.size wr).alloc (Nat.le_refl _) (.cells #[.string t, .int .i64 x] 105))
        have HB1 := hid (HR.out.bel.alloc HR.out.bel.size (.cells #[.string t, .int .i64 x] 105))
        have HBox := hid (HR.out.box.alloc (.cells #[.string t, .int .i64 x] 105))
        cases hn : isName t
        · have HNo := hid (namesOk_no (long := m.code.length) k hlt (by rw [nmOk, HT.out, hn]; rfl))
          clear hn
          go_wp2_with fail
          go_ret
          exact ⟨bool_eq HNo.out.symm, HB1.out⟩
        · have HNm := hid hn
          clear hn
          go_wp2_with fail
          refine (hasSame_c (m.names.take k) (.slice (some ⟨g2, o, none⟩) k cap) t wr.heap.size _ (((NRd.take hg2 HCs.out (by omega)).on HR.out.bel).alloc _) (by rw [List.length_take]; omega) (by simp) (HRn.out.cell 0)).mono ?_
          rintro e w1 ⟨rfl, hb1⟩
          have HRn1 := hid (HRn.out.on hb1)
          have HB2 := hid (HB1.out.trans (hb1.mono HB1.out.size))
          have HW2 := hid (HW1.out.trans (hb1.mono HW1.out.size))
          have HBox1 := hid (HBox.out.on hb1)
          have hz1 := hb1.size
          simp only [World.size_alloc] at hz1
          clear hb1 b0 b1 b2 b3 b4 hb0
          cases hh : hasSame (m.names.take k) t
          · have HH := hid hh
            clear hh
            have b4 := HBox1.out.cell 4
            have b3 := HBox1.out.cell 3
            have b2 := HBox1.out.cell 2
            have b1 := HBox1.out.cell 1
            have b0 := HBox1.out.cell 0
            have n0 := HRn1.out.cell 0
            have n1 := HRn1.out.cell 1
            simp at b0 b1 b2 b3 b4 n0 n1
            go_wp2_with fail
            refine (hasPlace_c m vc vd _ x _ (HI.out.on HB2.out) HS.out).mono ?_
            rintro e w2 ⟨rfl, hb2⟩
            have HRn2 := hid (HRn1.out.on hb2)
            have HB3 := hid (HB2.out.trans (hb2.mono HB2.out.size))
            have HW3 := hid (HW2.out.trans (hb2.mono HW2.out.size))
            have hz2 := hb2.size
            clear hb2 b0 b1 b2 b3 b4 n0 n1
            cases hp : (decide (0 ≤ x) && decide (x < (m.code.length : Int)))
            · have HNo := hid (namesOk_no (long := m.code.length) k hlt (by rw [nmOk, HX.out, hp, HT.out, HNm.out]; rfl))
              clear hp
              go_wp2_with fail
              go_ret
              exact ⟨bool_eq HNo.out.symm, HB3.out⟩
            · have HP := hid hp
              have hx0 : 0 ≤ x := by
                simp only [Bool.and_eq_true, decide_eq_true_eq] at hp
                exact hp.1
              have n0 := HRn2.out.cell 0
              have n1 := HRn2.out.cell 1
              simp at n0 n1
              clear hp
              by_cases hle : x ≤ lastAt m.names k
              · have HNo := hid (namesOk_no (long := m.code.length) k hlt (by rw [nmOk, HX.out, HP.out, HT.out, HNm.out, asc_iff _ _ (by rw [HX.out]; exact hx0), HX.out, decide_eq_true hle]; rfl))
                go_wp2_with fail
                go_ret
                exact ⟨bool_eq HNo.out.symm, HB3.out⟩
              · have HYes := hid (show nmOk m.names m.code.length k = true by rw [nmOk, HX.out, HP.out, HT.out, HNm.out, asc_iff _ _ (by rw [HX.out]; exact hx0), HX.out, decide_eq_false hle, nmNew_eq, HT.out, HH.out]; rfl)
                have HR4 := hid (HR.out.later hlt HYes.out HW3.out)
                rw [HX.out] at HR4
                go_wp2_with fail
                go_roundw
                case rel => exact ⟨k + 1, by go_num, HR4.out⟩
                case measure => simp [intOf]; omega
          · have HNo := hid (namesOk_no (long := m.code.length) k hlt (by rw [nmOk, nmNew_eq, HT.out, hh]; simp))
            clear hh
            go_wp2_with fail
            go_ret
            exact ⟨bool_eq HNo.out.symm, HB2.out⟩
      · obtain rfl : k = m.names.length := by omega
        have HY := hid (namesOk_yes (long := m.code.length) (by omega) HR.out.ok)
        have HB := hid HR.out.bel
        go_wp2_with fail
        go_ret
        exact ⟨bool_eq HY.out.symm, HB.out⟩
theorem imageOk_c (m : Img) (vc vd vn : Value) (w : World) (h : ICells w vc vd vn m) (hs : Sm m) :
    Calls Tryz.prog 90 #[imgVal vc vd vn m] w fun e w' => e = .returned (.bool (imageOk m)) ∧ Below w.heap.size w w' := by
  have HI := hid (h.alloc (.cells #[vc, .int .i64 m.entry, .int .i64 m.room, vd, vn] 30))
  have HS := hid hs
  have HBox := hid (Row.new w 30 #[vc, .int .i64 m.entry, .int .i64 m.room, vd, vn])
  have HB0 := hid ((Below.refl w.heap.size w).alloc (Nat.le_refl _) (.cells #[vc, .int .i64 m.entry, .int .i64 m.room, vd, vn] 30))
  clear h hs
  have hV : imgVal vc vd vn m = .agg #[vc, .int .i64 m.entry, .int .i64 m.room, vd, vn] := rfl
  have HV := hid hV
  rw [hV]
  clear hV
  go_enter Tryz.func90, Tryz.ntmps90
  go_wp2_with fail
  refine (codeOk_c m vc vd vn _ HI.out HS.out).mono ?_
  rintro e w1 ⟨rfl, hb1⟩
  have HI1 := hid (HI.out.on hb1)
  have HBox1 := hid (HBox.out.on hb1)
  have HB1 := hid (HB0.out.trans (hb1.mono HB0.out.size))
  have hz1 := hb1.size
  simp only [World.size_alloc] at hz1
  clear hb1
  cases hc : codeOk m
  · have HC := hid hc
    clear hc
    go_wp2_with fail
    go_ret
    exact ⟨bool_eq (by rw [imageOk, HC.out]; rfl), HB1.out⟩
  · have HC := hid hc
    clear hc
    have b4 := HBox1.out.cell 4
    have b3 := HBox1.out.cell 3
    have b2 := HBox1.out.cell 2
    have b1 := HBox1.out.cell 1
    have b0 := HBox1.out.cell 0
    simp at b0 b1 b2 b3 b4
    go_wp2_with fail
    refine (memOk_c m vc vd vn _ HI1.out HS.out).mono ?_
    rintro e w2 ⟨rfl, hb2⟩
    have HI2 := hid (HI1.out.on hb2)
    have HBox2 := hid (HBox1.out.on hb2)
    have HB2 := hid (HB1.out.trans (hb2.mono HB1.out.size))
    have hz2 := hb2.size
    clear hb2 b0 b1 b2 b3 b4
    cases hm : memOk m
    · have HM := hid hm
      clear hm
      go_wp2_with fail
      go_ret
      exact ⟨bool_eq (by rw [imageOk, HC.out, HM.out]; rfl), HB2.out⟩
    · have HM := hid hm
      clear hm
      have b4 := HBox2.out.cell 4
      have b3 := HBox2.out.cell 3
      have b2 := HBox2.out.cell 2
      have b1 := HBox2.out.cell 1
      have b0 := HBox2.out.cell 0
      simp at b0 b1 b2 b3 b4
      go_wp2_with fail
      refine (namesOk_c m vc vd vn _ HI2.out HS.out).mono ?_
      rintro e w3 ⟨rfl, hb3⟩
      have HB3 := hid (HB2.out.trans (hb3.mono HB2.out.size))
      clear hb3 b0 b1 b2 b3 b4
      go_wp2_with fail
      go_ret
      exact ⟨bool_eq (by rw [imageOk, HC.out, HM.out]; rfl), HB3.out⟩
end Go.Proofs.YtihhpgklpichgaaGreat.Im
