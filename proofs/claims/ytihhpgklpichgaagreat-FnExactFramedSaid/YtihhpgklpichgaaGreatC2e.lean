/- The tails' methods, longWith, InsLong: what they return. -/
import Derived.Test.YtihhpgklpichgaaGreatC2d
set_option linter.unusedSimpArgs false
set_option linter.unusedVariables false
namespace Go.Proofs.YtihhpgklpichgaaGreat.C2
open Go.RowKit Pl Ft Mm

theorem rLong_c (w : World) : Calls Tryz.prog 213 #[.agg #[]] w fun e w' => e = .returned (.int .i64 1) ∧ Below w.heap.size w w' := by
  go_enter Tryz.func213, Tryz.ntmps213
  go_wp2
  go_ret
  exact ⟨rfl, (Below.refl _ _).alloc (Nat.le_refl _) _⟩
theorem nLong_c (n : Int) (s : Bool) (w : World) : Calls Tryz.prog 216 #[.agg #[.int .i64 n, .bool s]] w fun e w' => e = .returned (.int .i64 n) ∧ Below w.heap.size w w' := by
  go_enter Tryz.func216, Tryz.ntmps216
  go_wp2
  go_ret
  exact ⟨rfl, (Below.refl _ _).alloc (Nat.le_refl _) _⟩
theorem cLong_c (w : World) : Calls Tryz.prog 220 #[.agg #[]] w fun e w' => e = .returned (.int .i64 1) ∧ Below w.heap.size w w' := by
  go_enter Tryz.func220, Tryz.ntmps220
  go_wp2
  go_ret
  exact ⟨rfl, (Below.refl _ _).alloc (Nat.le_refl _) _⟩
theorem jLong_c (w : World) : Calls Tryz.prog 223 #[.agg #[]] w fun e w' => e = .returned (.int .i64 1) ∧ Below w.heap.size w w' := by
  go_enter Tryz.func223, Tryz.ntmps223
  go_wp2
  go_ret
  exact ⟨rfl, (Below.refl _ _).alloc (Nat.le_refl _) _⟩
structure LongRel (l : List Nat) (B : Nat) (wb : World) (v : Value) (k : Nat) (wr : World) : Prop where
  le : k ≤ l.length
  own : wr.ownsRow B 203 1 v l.length (l.map tailOf)
  bel : Below wb.heap.size wb wr
set_option maxHeartbeats 1000000 in
theorem longWith_c (l : List Nat) (hl : ∀ c ∈ l, isLetter c = true) (hs : l.length ≤ 2) (B : Nat) (v : Value) (w : World) (hown : w.ownsRow B 203 1 v l.length (l.map tailOf)) :
    Calls Tryz.prog 176 #[v] w fun e w' => e = .returned (.int .i64 (longOf l)) ∧ Below w.heap.size w w' := by
  have hv : ∃ a cap, v = .slice a l.length cap := by
    rcases hown.2 with ⟨rfl, h0⟩ | ⟨g, cap, cur, rfl, _⟩
    · exact ⟨none, 0, by rw [h0]⟩
    · exact ⟨_, _, rfl⟩
  obtain ⟨va, cap, rfl⟩ := hv
  have HO := hid hown
  clear hown
  go_enter Tryz.func176, Tryz.ntmps176
  go_wp2
  go_loopw [3, 8] (fun s c wr => ∃ k : Nat, c = .int .i64 k ∧ s = .int .i64 (longOf (l.take k)) ∧ LongRel l B w (.slice va l.length cap) k wr) (fun _ c _ => l.length - (intOf c).toNat)
  case atStart => exact ⟨0, rfl, by simp [longOf], ⟨by omega, HO.out, Below.refl _ _⟩⟩
  case round =>
    obtain ⟨k, rfl, rfl, hrel⟩ := hrel
    have hbd := longOf_bd (l.take k)
    have hln : (l.take k).length ≤ k := List.length_take_le _ _
    by_cases hlt : k < l.length
    · obtain ⟨g, cap', hv, hg1, hg2⟩ := own_addr hrel.own (by omega)
      have hva : va = some ⟨g, 0, none⟩ := by simp at hv; exact hv.1
      subst hva
      have hck := hrel.own.cellAt k (by omega)
      have hget : (l.map tailOf)[k]? = some (tailOf l[k]) := by simp [hlt]
      rw [hget] at hck
      have hc := hl l[k] (List.getElem_mem hlt)
      have HR := hid hrel
      clear hrel hget
      have hsucc := longOf_succ l k hlt
      have HS := hid hsucc
      clear hsucc
      rcases letter_of hc with h | h | h | h | h | h
      all_goals
        rw [h] at hck
        have HH := hid h
        clear h hc
        simp [tailOf, rTail, nTail, cTail, jTail] at hck
        go_wp2_with (first | (go_at_call 213; refine (rLong_c _).mono ?_; rintro e w1 ⟨rfl, hb⟩) | (go_at_call 216; refine (nLong_c _ _ _).mono ?_; rintro e w1 ⟨rfl, hb⟩) | (go_at_call 220; refine (cLong_c _).mono ?_; rintro e w1 ⟨rfl, hb⟩) | (go_at_call 223; refine (jLong_c _).mono ?_; rintro e w1 ⟨rfl, hb⟩))
        go_roundw
        case rel => exact ⟨k + 1, by go_num, by rw [HS.out, HH.out]; rfl, ⟨by omega, own_on HR.out.own hb, HR.out.bel.trans (hb.mono HR.out.bel.size)⟩⟩
        case measure => simp [intOf]; omega
    · obtain rfl : k = l.length := by have := hrel.le; omega
      have he : l.take l.length = l := List.take_length
      have HE := hid he
      have HB := hid hrel.bel
      clear he hrel
      go_wp2
      go_ret
      exact ⟨int_eq (by rw [HE.out]), HB.out⟩

theorem insLong_some (i : IIns) (f : IForm) (hf : formOf i = some f) (w : World) :
    Calls Tryz.prog 150 #[i.val] w fun e w' => e = .returned (.int .i64 (longOf (letters f.follows))) ∧ Below w.heap.size w w' := by
  have hm := formOf_mem hf
  have ht := tab_letters f hm.1
  have HF := hid hf
  have HT := hid ht
  clear hf hm ht
  obtain ⟨op, a, b, n⟩ := i
  unfold IIns.val
  go_enter Tryz.func150, Tryz.ntmps150
  go_wp2_with fail
  refine (formOf_c ⟨op, a, b, n⟩ _).mono ?_
  rintro e w1 ⟨rfl, hb⟩
  unfold formVal
  rw [HF.out]
  simp only [Option.getD_some, Option.isSome_some]
  have HB1 := hid (((Below.refl _ _).alloc (Nat.le_refl _) _).trans (hb.mono (by simp)))
  have hz := hb.size
  simp at hz
  clear hb
  obtain ⟨fop, first, added, fa, fb, fn, fol, txt⟩ := f
  obtain ⟨hl, hs⟩ := HT.out
  simp only at hl hs
  unfold IForm.val
  simp only
  have HL := hid hl
  clear hl
  go_wp2_with fail
  refine (tails_c ⟨fop, first, added, fa, fb, fn, fol, txt⟩ HL.out hs _).mono ?_
  rintro e w2 ⟨v, rfl, hown, hb2⟩
  have HO := hid hown
  have HB2 := hid ((HB1.out.alloc HB1.out.size _).trans (hb2.mono (by simp; omega)))
  clear hown hb2
  go_wp2_with fail
  refine (longWith_c (letters fol) HL.out (by rw [letters_len]; exact hs) _ v _ (by rw [letters_len]; exact HO.out)).mono ?_
  rintro e w3 ⟨rfl, hb3⟩
  have HB3 := hid (HB2.out.trans (hb3.mono HB2.out.size))
  clear hb3
  go_wp2_with fail
  go_ret
  exact ⟨rfl, HB3.out⟩
theorem insLong_none (i : IIns) (hf : formOf i = none) (w : World) :
    Calls Tryz.prog 150 #[i.val] w fun e w' => e = .returned (.int .i64 (-1)) ∧ Below w.heap.size w w' := by
  have HF := hid hf
  clear hf
  obtain ⟨op, a, b, n⟩ := i
  unfold IIns.val
  go_enter Tryz.func150, Tryz.ntmps150
  go_wp2_with fail
  refine (formOf_c ⟨op, a, b, n⟩ _).mono ?_
  rintro e w1 ⟨rfl, hb⟩
  unfold formVal
  rw [HF.out]
  have HB1 := hid (((Below.refl _ _).alloc (Nat.le_refl _) _).trans (hb.mono (by simp)))
  have hz := hb.size
  simp at hz
  clear hb
  simp only [Option.getD_none, Option.isSome_none]
  unfold IForm.val IForm.none
  simp only
  go_wp2_with fail
  go_ret
  exact ⟨rfl, HB1.out.alloc HB1.out.size _⟩
end Go.Proofs.YtihhpgklpichgaaGreat.C2
