/- When a term is one, by the model: lists of texts, names, operators, validShape, termSize, TermOk. -/
import Derived.Test.YtffibmlgdacafaaDoorUb
import Derived.Test.YtffibmlgdacafaaDoorIm4
import Derived.Deep.DeepCutAuto
import Derived.Deep.RegionWith
set_option linter.unusedSimpArgs false
set_option linter.unusedVariables false
namespace Go.Proofs.YtffibmlgdacafaaDoor.Um
open Go.RowKit Pl Ft Mm In C2 Im

/-- The slice v reads as these texts. -/
def SRd (w : World) (v : Value) (l : List ByteArray) : Prop :=
  ∃ a cap, v = .slice a l.length cap ∧ (l = [] ∨ ∃ g o, a = some ⟨g, o, none⟩ ∧ g < w.heap.size ∧ ∀ j, j < l.length → w.cell? ⟨g, o + j, none⟩ = some (.string (l.getD j ⟨#[]⟩)))
theorem SRd.on {w w' : World} {v : Value} {xs : List ByteArray} (h : SRd w v xs) (hb : Below w.heap.size w w') : SRd w' v xs := by
  obtain ⟨a, cap, e, h⟩ := h
  refine ⟨a, cap, e, ?_⟩
  rcases h with h | ⟨g, o, ea, hg, hc⟩
  · exact .inl h
  · refine .inr ⟨g, o, ea, Nat.lt_of_lt_of_le hg hb.size, fun j hj => ?_⟩
    rw [hb.cell (p := ⟨g, o + j, none⟩) hg]
    exact hc j hj
theorem SRd.lit (w : World) (cs : Array Value) (t : TypeId) (l : List ByteArray) (n cap : Nat) (h : cs.toList = l.map Value.string) (hn : n = l.length) : SRd (w.alloc (.cells cs t)) (.slice (some ⟨w.heap.size, 0, none⟩) n cap) l := by
  subst hn
  refine ⟨_, cap, rfl, .inr ⟨_, _, rfl, (Row.new w t cs).lt, fun j hj => ?_⟩⟩
  rw [(Row.new w t cs).cell, Nat.zero_add, ← Array.getElem?_toList, h, List.getElem?_map, List.getElem?_eq_getElem hj]
  simp [hj]
def resTexts : List ByteArray := [⟨#[119, 111, 114, 100]⟩, ⟨#[98, 121, 116, 101]⟩, ⟨#[111, 117, 116]⟩, ⟨#[105, 110]⟩, ⟨#[105, 102]⟩, ⟨#[101, 108, 115, 101]⟩, ⟨#[108, 111, 111, 112]⟩, ⟨#[98, 108, 111, 99, 107]⟩, ⟨#[108, 101, 97, 118, 101]⟩, ⟨#[97, 103, 97, 105, 110]⟩, ⟨#[98, 97, 99, 107]⟩, ⟨#[104, 97, 108, 116]⟩, ⟨#[112, 114, 111, 99]⟩]
def opsTexts : List ByteArray := [⟨#[43]⟩, ⟨#[45]⟩, ⟨#[42]⟩, ⟨#[38]⟩, ⟨#[124]⟩, ⟨#[94]⟩, ⟨#[61, 61]⟩, ⟨#[60]⟩, ⟨#[60, 60]⟩]
def hasText (l : List ByteArray) (s : ByteArray) : Bool := l.any fun x => x.toList == s.toList
theorem res_has (s : ByteArray) : hasText resTexts s = resWords.contains s.toList := by
  have e : resWords = resTexts.map ByteArray.toList := by
    simp only [resTexts, resWords, List.map_cons, List.map_nil, ByteArray.toList_eq]
  rw [e, hasText, Bool.eq_iff_iff, List.any_eq_true, List.contains_iff_mem]
  simp
theorem ops_has (s : ByteArray) : hasText opsTexts s = isOp s := by
  have e : opTexts = opsTexts.map ByteArray.toList := by
    simp only [opsTexts, opTexts, List.map_cons, List.map_nil, ByteArray.toList_eq]
  rw [isOp, e, hasText, Bool.eq_iff_iff, List.any_eq_true, List.contains_iff_mem]
  simp
theorem reserved_c (w : World) : Calls Tryd.prog 116 #[] w fun e w' => ∃ v, e = .returned v ∧ SRd w' v resTexts ∧ Below w.heap.size w w' := by
  go_enter Tryd.func116, Tryd.ntmps116
  go_wp2_with fail
  go_ret
  exact ⟨_, rfl, SRd.lit w _ _ resTexts 13 13 rfl rfl, (Below.refl _ _).alloc (Nat.le_refl _) _⟩
theorem operators_c (w : World) : Calls Tryd.prog 97 #[] w fun e w' => ∃ v, e = .returned v ∧ SRd w' v opsTexts ∧ Below w.heap.size w w' := by
  go_enter Tryd.func97, Tryd.ntmps97
  go_wp2_with fail
  go_ret
  exact ⟨_, rfl, SRd.lit w _ _ opsTexts 9 9 rfl rfl, (Below.refl _ _).alloc (Nat.le_refl _) _⟩
/-- The first place of a text; -1 if it is not there. -/
def placeIn (l : List ByteArray) (s : ByteArray) : Int := match l.findIdx? (fun x => x.toList == s.toList) with | some k => k | none => -1
theorem placeIn_at {l : List ByteArray} {s : ByteArray} {k : Nat} (hk : k < l.length) (h : ((l.getD k ⟨#[]⟩).toList == s.toList) = true) (hn : ∀ j, j < k → ((l.getD j ⟨#[]⟩).toList == s.toList) = false) : placeIn l s = k := by
  unfold placeIn
  have : l.findIdx? (fun x => x.toList == s.toList) = some k := by
    rw [List.findIdx?_eq_some_iff_getElem]
    refine ⟨hk, by simpa [hk] using h, fun j hj => ?_⟩
    have hjl : j < l.length := by omega
    have := hn j hj
    simpa [hjl] using this
  rw [this]
theorem placeIn_no {l : List ByteArray} {s : ByteArray} (hn : ∀ j, j < l.length → ((l.getD j ⟨#[]⟩).toList == s.toList) = false) : placeIn l s = -1 := by
  unfold placeIn
  have : l.findIdx? (fun x => x.toList == s.toList) = none := by
    rw [List.findIdx?_eq_none_iff]
    intro x hx
    obtain ⟨j, hj, rfl⟩ := List.mem_iff_getElem.1 hx
    have := hn j hj
    simpa [hj] using this
  rw [this]
theorem placeIn_bd (l : List ByteArray) (s : ByteArray) : -1 ≤ placeIn l s ∧ placeIn l s < l.length ∨ placeIn l s = -1 := by
  unfold placeIn
  cases h : l.findIdx? (fun x => x.toList == s.toList) with
  | none => exact .inr rfl
  | some k =>
    have := (List.findIdx?_eq_some_iff_getElem.1 h).1
    exact .inl ⟨by simp only; omega, by simp only; omega⟩
theorem placeIn_has (l : List ByteArray) (s : ByteArray) : decide (0 ≤ placeIn l s) = hasText l s := by
  unfold placeIn hasText
  cases h : l.findIdx? (fun x => x.toList == s.toList) with
  | none =>
    have h2 : l.any (fun x => x.toList == s.toList) = false := by
      rw [List.any_eq_false]
      intro x hx
      have := List.findIdx?_eq_none_iff.1 h x hx
      simp [this]
    rw [h2]
    rfl
  | some k =>
    obtain ⟨hk, he, _⟩ := List.findIdx?_eq_some_iff_getElem.1 h
    have h2 : l.any (fun x => x.toList == s.toList) = true := by
      rw [List.any_eq_true]
      exact ⟨_, List.getElem_mem hk, he⟩
    rw [h2]
    simp
theorem textAt_c (l : List ByteArray) (v : Value) (s : ByteArray) (w : World) (hr : SRd w v l) (hl : l.length ≤ 1048576) :
    Calls Tryd.prog 114 #[v, .string s] w fun e w' => e = .returned (.int .i64 (placeIn l s)) ∧ w' = w := by
  obtain ⟨a, cap, rfl, ha⟩ := hr
  have HA := hid ha
  clear ha
  go_enter Tryd.func114, Tryd.ntmps114
  go_wp2_with fail
  go_loop [5] (fun c => ∃ k : Nat, c = .int .i64 k ∧ k ≤ l.length ∧ ∀ j, j < k → ((l.getD j ⟨#[]⟩).toList == s.toList) = false) (fun c => l.length - (intOf c).toNat)
  case atStart => exact ⟨0, rfl, by omega, fun j hj => by omega⟩
  case round =>
    obtain ⟨k, rfl, hk, hno⟩ := hrel
    have HNo := hid hno
    clear hno
    by_cases hlt : k < l.length
    · rcases HA.out with h | ⟨g, o, rfl, hg, hc⟩
      · subst h; simp at hlt
      have q1 := hc k hlt
      have HP := hid (fun h => placeIn_at hlt h HNo.out)
      obtain ⟨x, hx⟩ : ∃ x, l.getD k ⟨#[]⟩ = x := ⟨_, rfl⟩
      rw [hx] at q1 HP
      have HX := hid hx
      clear hc hx
      cases hb : (x.toList == s.toList)
      · have HBv := hid hb
        go_wp2_with fail
        go_round
        case rel =>
          refine ⟨k + 1, by go_num, by omega, fun j hj => ?_⟩
          by_cases hjk : j < k
          · exact HNo.out j hjk
          · obtain rfl : j = k := by omega
            rw [HX.out]
            exact HBv.out
        case measure => simp [intOf]; omega
      · have HBv := hid (HP.out hb)
        go_wp2_with fail
        go_ret
        exact ⟨int_eq HBv.out.symm, rfl⟩
    · obtain rfl : k = l.length := by omega
      have HP := hid (placeIn_no HNo.out)
      go_wp2_with fail
      go_ret
      exact ⟨int_eq HP.out.symm, rfl⟩
theorem inTexts_c (l : List ByteArray) (v : Value) (s : ByteArray) (w : World) (hr : SRd w v l) (hl : l.length ≤ 1048576) :
    Calls Tryd.prog 70 #[v, .string s] w fun e w' => e = .returned (.bool (hasText l s)) ∧ w' = w := by
  have HR := hid hr
  have HP := hid (placeIn_has l s)
  have hbd := placeIn_bd l s
  clear hr
  go_enter Tryd.func70, Tryd.ntmps70
  go_wp2_with fail
  refine (textAt_c l v s _ HR.out hl).mono ?_
  rintro e w1 ⟨rfl, rfl⟩
  obtain ⟨x, hx⟩ : ∃ x, placeIn l s = x := ⟨_, rfl⟩
  rw [hx] at HP hbd ⊢
  clear hx
  go_wp2_with fail
  go_ret
  exact ⟨bool_eq (by rw [← HP.out]), rfl⟩
theorem isVar_c (s : ByteArray) (w : World) (hs : s.size ≤ 4611686018427387904) : Calls Tryd.prog 72 #[.string s] w fun e w' => e = .returned (.bool (freeName s)) ∧ Below w.heap.size w w' := by
  have HF := hid (show freeName s = (isName s && !hasText resTexts s) by rw [freeName, res_has, Bool.and_comm])
  cases h : isName s
  · have H := hid h
    clear h
    go_enter Tryd.func72, Tryd.ntmps72
    go_wp2_with (go_at_call 115; refine (sIsName_c s _ hs).mono ?_; rw [H.out]; rintro e w1 ⟨rfl, rfl⟩)
    go_ret
    exact ⟨bool_eq (by rw [HF.out, H.out]; rfl), Below.refl _ _⟩
  · have H := hid h
    clear h
    go_enter Tryd.func72, Tryd.ntmps72
    go_wp2_with (go_at_call 115; refine (sIsName_c s _ hs).mono ?_; rw [H.out]; rintro e w1 ⟨rfl, rfl⟩)
    refine (reserved_c _).mono ?_
    rintro e w2 ⟨v, rfl, hr, hb⟩
    have HR := hid hr
    have HB := hid hb
    clear hr hb
    go_wp2_with fail
    refine (inTexts_c resTexts v s _ HR.out (by decide)).mono ?_
    rintro e w3 ⟨rfl, rfl⟩
    obtain ⟨b, hb⟩ : ∃ b, hasText resTexts s = b := ⟨_, rfl⟩
    rw [hb] at HF ⊢
    clear hb
    go_wp2_with fail
    go_ret
    exact ⟨bool_eq (by rw [HF.out, H.out]; rfl), HB.out⟩
def kidsIn (k : Int) : Int := if k = 2 then 2 else if k = 3 ∨ k = 4 ∨ k = 5 then 1 else 0
theorem kidsOf_c (k : Int) (w : World) : Calls Tryd.prog 117 #[.int .i64 k] w fun e w' => e = .returned (.int .i64 (kidsIn k)) ∧ w' = w := by
  by_cases h : k = 2 ∨ k = 3 ∨ k = 4 ∨ k = 5
  · rcases h with rfl | rfl | rfl | rfl
    all_goals
      go_enter Tryd.func117, Tryd.ntmps117
      go_wp2_with fail
      go_ret
      exact ⟨int_eq rfl, rfl⟩
  · have H := hid (show kidsIn k = 0 by unfold kidsIn; rw [if_neg (by omega), if_neg (by omega)])
    have h2 : (k == 2) = false := by simp; omega
    have h3 : (k == 3) = false := by simp; omega
    have h4 : (k == 4) = false := by simp; omega
    have h5 : (k == 5) = false := by simp; omega
    clear h
    go_enter Tryd.func117, Tryd.ntmps117
    go_wp2_with fail
    go_ret
    exact ⟨int_eq H.out.symm, rfl⟩
end Go.Proofs.YtffibmlgdacafaaDoor.Um
