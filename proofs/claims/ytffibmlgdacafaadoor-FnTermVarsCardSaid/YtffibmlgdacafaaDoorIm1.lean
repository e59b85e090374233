/- The form of a name: isName of the program and of the model · Whether an image is one, by the program: hasPlace, codeOk, memoryOk, namesOk, ImageOk · Whether an image is one, by the program: namesOk, ImageOk. -/
import Derived.Test.YtffibmlgdacafaaDoorBase
import Derived.Test.YtffibmlgdacafaaDoorC2t
set_option linter.unusedSimpArgs false
set_option linter.unusedVariables false
namespace Go.Proofs.YtffibmlgdacafaaDoor.Im
open Go.RowKit Pl Ft Mm In C2

theorem small_c (c : Nat) (hc : c < 256) (w : World) : Calls Tryd.prog 141 #[.int .u8 c] w fun e w' => e = .returned (.bool (small c)) ∧ w = w' := by
  by_cases h1 : 97 ≤ c
  · by_cases h2 : c ≤ 122
    all_goals
      go_enter Tryd.func141, Tryd.ntmps141
      go_wp2_with fail
      go_ret
      exact ⟨bool_eq (by simp [small, h1, h2]; omega), rfl⟩
  · go_enter Tryd.func141, Tryd.ntmps141
    go_wp2_with fail
    go_ret
    exact ⟨bool_eq (by simp [small, h1]), rfl⟩
theorem digit_c (c : Nat) (hc : c < 256) (w : World) : Calls Tryd.prog 142 #[.int .u8 c] w fun e w' => e = .returned (.bool (digit c)) ∧ w = w' := by
  by_cases h1 : 48 ≤ c
  · by_cases h2 : c ≤ 57
    all_goals
      go_enter Tryd.func142, Tryd.ntmps142
      go_wp2_with fail
      go_ret
      exact ⟨bool_eq (by simp [digit, h1, h2]; omega), rfl⟩
  · go_enter Tryd.func142, Tryd.ntmps142
    go_wp2_with fail
    go_ret
    exact ⟨bool_eq (by simp [digit, h1]), rfl⟩
def AllTo (s : ByteArray) (k : Nat) : Prop := ∀ j (h : j < s.size), j < k → letterOk (s[j].toNat) = true
theorem AllTo.zero (s : ByteArray) : AllTo s 0 := fun j _ hj => by omega
theorem AllTo.succ {s : ByteArray} {k : Nat} (h : AllTo s k) (hk : k < s.size) (hc : letterOk (s[k].toNat) = true) : AllTo s (k + 1) := by
  intro j hj hlt
  by_cases e : j = k
  · subst e; exact hc
  · exact h j hj (by omega)
theorem u8_lt (u : UInt8) : u.toNat < 256 := u.toNat_lt
set_option maxHeartbeats 800000 in
theorem isName_c (s : ByteArray) (w : World) (hs : s.size ≤ 4611686018427387904) : Calls Tryd.prog 112 #[.string s] w fun e w' => e = .returned (.bool (isName s)) ∧ w = w' := by
  by_cases h1 : s.size < 1
  · have HN := hid (isName_size (.inl h1))
    go_enter Tryd.func112, Tryd.ntmps112
    go_wp2_with fail
    go_ret
    exact ⟨bool_eq HN.out.symm, rfl⟩
  · by_cases h8 : 8 < s.size
    · have HN := hid (isName_size (.inr h8))
      go_enter Tryd.func112, Tryd.ntmps112
      go_wp2_with fail
      go_ret
      exact ⟨bool_eq HN.out.symm, rfl⟩
    · have h0 : 0 < s.size := by omega
      cases hf : small (s[0].toNat)
      · have HN := hid (isName_first h0 hf)
        have HF := hid hf
        clear hf
        go_enter Tryd.func112, Tryd.ntmps112
        go_wp2_with (go_at_call 141; refine (small_c _ (u8_lt _) _).mono ?_; rw [HF.out]; rintro e w' ⟨rfl, rfl⟩)
        go_ret
        exact ⟨bool_eq HN.out.symm, rfl⟩
      · have HF := hid hf
        clear hf
        go_enter Tryd.func112, Tryd.ntmps112
        go_wp2_with (go_at_call 141; refine (small_c _ (u8_lt _) _).mono ?_; rw [HF.out]; rintro e w' ⟨rfl, rfl⟩)
        go_loop [20] (fun c => ∃ k : Nat, c = .int .i64 k ∧ k ≤ s.size ∧ AllTo s k) (fun c => s.size - (intOf c).toNat)
        case atStart => exact ⟨0, rfl, by omega, AllTo.zero s⟩
        case round =>
          obtain ⟨k, rfl, hk, hall⟩ := hrel
          have HA := hid hall
          clear hall
          by_cases hlt : k < s.size
          · cases h2 : small (s[k].toNat)
            · have H2 := hid h2
              clear h2
              cases h3 : digit (s[k].toNat)
              · have H3 := hid h3
                clear h3
                go_wp2_with (first | (go_at_call 141; refine (small_c _ (u8_lt _) _).mono ?_; rw [H2.out]; rintro e w' ⟨rfl, rfl⟩) | (go_at_call 142; refine (digit_c _ (u8_lt _) _).mono ?_; rw [H3.out]; rintro e w' ⟨rfl, rfl⟩))
                go_ret
                exact ⟨bool_eq (isName_at k hlt (by rw [letterOk, H2.out, H3.out]; rfl)).symm, rfl⟩
              · have H3 := hid h3
                clear h3
                go_wp2_with (first | (go_at_call 141; refine (small_c _ (u8_lt _) _).mono ?_; rw [H2.out]; rintro e w' ⟨rfl, rfl⟩) | (go_at_call 142; refine (digit_c _ (u8_lt _) _).mono ?_; rw [H3.out]; rintro e w' ⟨rfl, rfl⟩))
                go_round
                case rel => exact ⟨k + 1, by go_num, by omega, HA.out.succ hlt (by rw [letterOk, H2.out, H3.out]; rfl)⟩
                case measure => simp [intOf]; omega
            · have H2 := hid h2
              clear h2
              go_wp2_with (go_at_call 141; refine (small_c _ (u8_lt _) _).mono ?_; rw [H2.out]; rintro e w' ⟨rfl, rfl⟩)
              go_round
              case rel => exact ⟨k + 1, by go_num, by omega, HA.out.succ hlt (by rw [letterOk, H2.out]; rfl)⟩
              case measure => simp [intOf]; omega
          · obtain rfl : k = s.size := by omega
            have hy := isName_yes (s := s) (by omega) (by omega) HF.out (fun j hj => HA.out j hj hj)
            have HY := hid hy
            clear hy
            go_wp2_with fail
            go_ret
            exact ⟨bool_eq HY.out.symm, rfl⟩
/-- The model goes through the letters first. -/
def SomeTo (s : ByteArray) (k : Nat) : Prop := AllTo s k ∧ (0 < k → ∀ h : 0 < s.size, small (s[0].toNat) = true)
theorem small_iff {c : Nat} : small c = true ↔ 97 ≤ c ∧ c ≤ 122 := by simp [small]
theorem digit_iff {c : Nat} : digit c = true ↔ 48 ≤ c ∧ c ≤ 57 := by simp [digit]
theorem SomeTo.succ {s : ByteArray} {k : Nat} (h : SomeTo s k) (hk : k < s.size) (hc : letterOk (s[k].toNat) = true) (hf : small (s[k].toNat) = true ∨ 0 < k) : SomeTo s (k + 1) := by
  refine ⟨h.1.succ hk hc, fun _ h0 => ?_⟩
  by_cases e : k = 0
  · subst e
    rcases hf with hf | hf
    · exact hf
    · omega
  · exact h.2 (by omega) h0
theorem isName_no {s : ByteArray} {k : Nat} (hk : k < s.size) (h1 : small (s[k].toNat) = false) (h2 : k = 0 ∨ digit (s[k].toNat) = false) : isName s = false := by
  rcases h2 with rfl | h2
  · exact isName_first hk h1
  · exact isName_at k hk (by rw [letterOk, h1, h2]; rfl)
theorem isName_end {s : ByteArray} (h : SomeTo s s.size) : inRange s.size 1 8 = isName s := by
  by_cases h1 : 1 ≤ s.size
  · by_cases h8 : s.size ≤ 8
    · rw [isName_yes h1 h8 (h.2 (by omega) (by omega)) (fun j hj => h.1 j hj hj)]
      simp [inRange]; omega
    · rw [isName_size (.inr (by omega))]
      simp [inRange]; omega
  · rw [isName_size (.inl (by omega))]
    simp [inRange]; omega
set_option maxHeartbeats 800000 in
theorem sIsName_c (s : ByteArray) (w : World) (hs : s.size ≤ 4611686018427387904) : Calls Tryd.prog 115 #[.string s] w fun e w' => e = .returned (.bool (isName s)) ∧ w = w' := by
  go_enter Tryd.func115, Tryd.ntmps115
  go_wp2
  go_loop [3] (fun c => ∃ k : Nat, c = .int .i64 k ∧ k ≤ s.size ∧ SomeTo s k) (fun c => s.size - (intOf c).toNat)
  case atStart => exact ⟨0, rfl, by omega, AllTo.zero s, fun h => by omega⟩
  case round =>
    obtain ⟨k, rfl, hk, hall⟩ := hrel
    have HA := hid hall
    clear hall
    by_cases hlt : k < s.size
    · have hu := u8_lt s[k]
      cases h2 : small (s[k].toNat)
      · have H2 := hid h2
        have h2' : s[k].toNat < 97 ∨ 122 < s[k].toNat := by simp [small] at h2; omega
        clear h2
        by_cases h0 : k = 0
        · have HN := hid (isName_no hlt H2.out (.inl h0))
          subst h0
          rcases h2' with h2' | h2'
          · go_wp2_with fail
            go_ret
            exact ⟨bool_eq HN.out.symm, rfl⟩
          · have h97 : 97 ≤ s[0].toNat := by omega
            have hd : decide ((s[0].toNat : Int) ≤ 122) = false := by simp; omega
            go_wp2_with fail
            go_ret
            exact ⟨bool_eq HN.out.symm, rfl⟩
        · have hne : ((k : Int) == 0) = false := by simpa using h0
          cases h3 : digit (s[k].toNat)
          · have HN := hid (isName_no hlt H2.out (.inr h3))
            have h3' : s[k].toNat < 48 ∨ (48 ≤ s[k].toNat ∧ 57 < s[k].toNat) := by simp [digit] at h3; omega
            clear h3
            rcases h2' with h2' | h2'
            · rcases h3' with h3' | ⟨h3', h3''⟩
              all_goals
                go_wp2_with fail
                go_ret
                exact ⟨bool_eq HN.out.symm, rfl⟩
            · have h97 : 97 ≤ s[k].toNat := by omega
              have h48 : 48 ≤ s[k].toNat := by omega
              have h57 : 57 < s[k].toNat := by omega
              have hd : decide ((s[k].toNat : Int) ≤ 122) = false := by simp; omega
              clear h3'
              go_wp2_with fail
              go_ret
              exact ⟨bool_eq HN.out.symm, rfl⟩
          · have HS := hid (HA.out.succ hlt (by rw [letterOk, H2.out, h3]; rfl) (.inr (by omega)))
            obtain ⟨h48, h57⟩ := digit_iff.1 h3
            have h97 : s[k].toNat < 97 := by omega
            clear h3 h2'
            go_wp2_with fail
            go_round
            case rel => exact ⟨k + 1, by go_num, by omega, HS.out⟩
            case measure => simp [intOf]; omega
      · have HS := hid (HA.out.succ hlt (by rw [letterOk, h2]; rfl) (.inl h2))
        obtain ⟨h97, h122⟩ := small_iff.1 h2
        clear h2
        go_wp2_with fail
        go_round
        case rel => exact ⟨k + 1, by go_num, by omega, HS.out⟩
        case measure => simp [intOf]; omega
    · obtain rfl : k = s.size := by omega
      have he := isName_end HA.out
      have HE := hid he
      clear he
      go_wp2_with (go_at_call 53; refine (inR_c _ _ _ _).mono ?_; rw [HE.out]; rintro e w' ⟨rfl, rfl⟩)
      go_ret
      exact ⟨rfl, rfl⟩
end Go.Proofs.YtffibmlgdacafaaDoor.Im
namespace Go.Proofs.YtffibmlgdacafaaDoor.Im
open Go.RowKit Pl Ft Mm In C2

end Go.Proofs.YtffibmlgdacafaaDoor.Im
namespace Go.Proofs.YtffibmlgdacafaaDoor.Im
open Go.RowKit Pl Ft Mm In C2

def hasSame (l : List Nm) (s : ByteArray) : Bool := l.any fun m => m.text.toList == s.toList
def NoneTo (l : List Nm) (s : ByteArray) (k : Nat) : Prop := hasSame (l.take k) s = false
theorem NoneTo.succ {l : List Nm} {s : ByteArray} {k : Nat} (h : NoneTo l s k) (hk : k < l.length) (hc : ((l.getD k .none).text.toList == s.toList) = false) : NoneTo l s (k + 1) := by
  have e : l.getD k .none = l[k] := by simp [hk]
  rw [e] at hc
  unfold NoneTo hasSame at h ⊢
  rw [List.take_succ_eq_append_getElem hk, List.any_append, h]
  simpa using hc
theorem hasSame_at {l : List Nm} {s : ByteArray} {k : Nat} (hk : k < l.length) (hc : ((l.getD k .none).text.toList == s.toList) = true) : hasSame l s = true := by
  have e : l.getD k .none = l[k] := by simp [hk]
  rw [e] at hc
  exact List.any_eq_true.2 ⟨l[k], List.getElem_mem hk, hc⟩
def IdxPost (l : List Nm) (s : ByteArray) (w : World) (e : Ending) (w' : World) : Prop := ∃ x : Int, e = .returned (.int .i64 x) ∧ -1 ≤ x ∧ decide (0 ≤ x) = hasSame l s ∧ Below w.heap.size w w'
def lastAt (l : List Nm) (k : Nat) : Int := if k = 0 then -1 else (l.getD (k - 1) .none).at_
theorem asc_iff (l : List Nm) (k : Nat) (h0 : 0 ≤ (l.getD k .none).at_) : nmAsc l k = !decide ((l.getD k .none).at_ ≤ lastAt l k) := by
  unfold nmAsc lastAt
  by_cases hk : k = 0
  · subst hk
    have h1 : ¬ (l.getD 0 .none).at_ ≤ -1 := by omega
    rw [if_pos rfl, decide_eq_false h1]
    rfl
  · have h1 : (k == 0) = false := by simpa using hk
    rw [if_neg hk, h1, Bool.false_or]
    by_cases h2 : (l.getD (k - 1) .none).at_ < (l.getD k .none).at_
    · rw [decide_eq_true h2, decide_eq_false (by omega)]; rfl
    · rw [decide_eq_false h2, decide_eq_true (by omega)]; rfl
theorem nmNew_eq (l : List Nm) (k : Nat) : nmNew l k = !hasSame (l.take k) (l.getD k .none).text := by
  unfold nmNew hasSame
  rw [List.not_any_eq_all_not]
end Go.Proofs.YtffibmlgdacafaaDoor.Im
