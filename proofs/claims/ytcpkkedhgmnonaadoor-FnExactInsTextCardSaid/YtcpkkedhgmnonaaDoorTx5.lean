/- InsText, by the program and by the model, at every four numbers. -/
import Derived.Test.YtcpkkedhgmnonaaDoorTx4
import Derived.Test.YtcpkkedhgmnonaaDoorFormLem2
set_option linter.unusedSimpArgs false
set_option linter.unusedVariables false
namespace Go.Proofs.YtcpkkedhgmnonaaDoor.Tx
open Go.RowKit Pl Ft Mm In C2 Im

/-- What InsText answers. -/
def textOf (i : IIns) : ByteArray := if validIns i then sText i else ⟨#[]⟩
theorem opWords_size : ∀ k, k < 31 → (opWords.getD k ⟨#[]⟩).size ≤ 6 := by decide +kernel
theorem condWords_size (k : Nat) : (condWords.getD k ⟨#[]⟩).size ≤ 6 := by
  have h : ∀ k, k < 6 → (condWords.getD k ⟨#[]⟩).size ≤ 6 := by decide +kernel
  by_cases hk : k < 6
  · exact h k hk
  · rw [List.getD_eq_getElem?_getD, List.getElem?_eq_none (by simp [condWords]; omega)]
    decide
theorem sText_size {i : IIns} (hv : validIns i = true) : (sText i).size ≤ 10000000 := by
  have hb := valid_bounds hv
  have h0 := hb.o0
  have h1 := hb.o1
  have ho := opWords_size i.op.toNat (by omega)
  have hc := condWords_size i.b.toNat
  have hla := itoa_len (x := i.a) (by have := hb.a0; omega) (by have := hb.a1; omega)
  have hlb := itoa_len (x := i.b) (by have := hb.b0; omega) (by have := hb.b1; omega)
  have hln := itoa_len (x := i.n) (by have := hb.n0; omega) (by have := hb.n1; omega)
  have hh : (headOf i).size ≤ 20 := by
    unfold headOf
    split
    · simp only [ByteArray.size_append]
      have e : (⟨#[32]⟩ : ByteArray).size = 1 := rfl
      omega
    · omega
  have e1 : (⟨#[32]⟩ : ByteArray).size = 1 := rfl
  have e2 : (⟨#[32, 114]⟩ : ByteArray).size = 2 := rfl
  have e4 : (⟨#[32, 102, 97, 114]⟩ : ByteArray).size = 4 := rfl
  unfold sText
  split
  · unfold farOf
    split <;> simp only [ByteArray.size_append] <;> omega
  · unfold withN withB withA
    repeat' split
    all_goals ((try simp only [ByteArray.size_append]); omega)
theorem tab_text : ∀ k, k < 33 → (tab.getD k .none).text.size ≤ 100 ∧ (parts33.getD k []).length ≤ 100 ∧ ((parts33.getD k []).any (fun p => p.data.toList == [67]) = true → (tab.getD k .none).b = 3) := by decide +kernel
set_option maxRecDepth 100000 in
theorem insTextAll_c (i : IIns) (w : World) (ht : Tab w) (hc : Conds w) (m : Int) (hm : w.cell? ⟨1, 0, none⟩ = some (.int .i64 m)) (hg1 : 1 < w.heap.size) :
    Calls Tryd.prog 6 #[i.val] w fun e w' => e = .returned (.string (textOf i)) ∧ Below w.heap.size w w' := by
  obtain ⟨o, ho⟩ : ∃ o, formOf i = o := ⟨_, rfl⟩
  have hsv := some_valid i
  rw [ho] at hsv
  cases o with
  | none =>
    have hte : textOf i = ⟨#[]⟩ := by unfold textOf; rw [← hsv]; rfl
    rw [hte]
    clear hte hsv
    obtain ⟨op, a, b, n⟩ := i
    have hV : (IIns.mk op a b n).val = .agg #[.int .i64 op, .int .i64 a, .int .i64 b, .int .i64 n] := rfl
    have HV := hid hV
    have HO := hid ho
    rw [hV]
    clear hV ht hc hm ho
    have HB0 := hid ((Below.refl w.heap.size w).alloc (Nat.le_refl _) (.cells #[.int .i64 op, .int .i64 a, .int .i64 b, .int .i64 n] 24))
    go_enter Tryd.func6, Tryd.ntmps6
    go_wp2_with fail
    generalize w.alloc (.cells #[.int .i64 op, .int .i64 a, .int .i64 b, .int .i64 n] 24) = w0 at HB0 ⊢
    rw [← HV.out]
    refine (formOf_c ⟨op, a, b, n⟩ w0).mono ?_
    rintro e w1 ⟨rfl, hb1⟩
    have HB1 := hid (HB0.out.trans (hb1.mono HB0.out.size))
    clear hb1
    rw [HV.out]
    have hv : formVal ⟨op, a, b, n⟩ = .tuple #[.agg #[.int .i64 0, .int .i64 0, .int .i64 0, .int .i64 0, .int .i64 0, .int .i64 0, .string ⟨#[]⟩, .string ⟨#[]⟩], .bool false] := by unfold formVal; rw [HO.out]; rfl
    rw [hv]
    clear hv
    go_wp2_with fail
    go_ret
    exact ⟨rfl, HB1.out.alloc HB1.out.size _⟩
  | some f =>
    have hv : validIns i = true := by rw [← hsv]; rfl
    have hte : textOf i = insTextOf f i := by unfold textOf; rw [if_pos hv, text_eq ho]
    rw [hte]
    have hb := valid_bounds hv
    obtain ⟨hm2, htk⟩ := formOf_mem ho
    have hall := tab_cases (fun f => f.text.size ≤ 100 ∧ (pieces f.text).length ≤ 100 ∧ ((pieces f.text).any (fun p => p.data.toList == [67]) = true → f.b = 3)) (fun k hk => by rw [pieces_tab k hk]; exact tab_text k hk) f hm2
    refine insText_c i f w ho ht hc m hm hg1 hall.1 ?_ ?_ hall.2.1 ⟨by have := hb.a0; omega, by have := hb.a1; omega⟩ ⟨by have := hb.b0; omega, by have := hb.b1; omega⟩ ⟨by have := hb.n0; omega, by have := hb.n1; omega⟩
    · intro p hp h67
      have hf3 := hall.2.2 (List.any_eq_true.2 ⟨p, hp, by rw [ByteArray.toList_eq] at h67; simpa using h67⟩)
      rw [takes_iff] at htk
      have h := htk.2.2.1
      rw [hf3] at h
      simp [lo, hi] at h
      omega
    · have h := sText_size hv
      rw [← text_eq ho] at h
      simp only [insTextOf, ByteArray.size] at h
      simp at h ⊢
      omega
set_option maxRecDepth 100000 in
theorem sInsTextAll_c (i : IIns) (w : World) :
    Calls Tryd.prog 7 #[i.val] w fun e w' => e = .returned (.string (textOf i)) ∧ Below w.heap.size w w' := by
  have HV := hid (validIns_c i w)
  obtain ⟨s, hs⟩ : ∃ s, textOf i = s := ⟨_, rfl⟩
  rw [hs]
  have HS := hid hs
  clear hs
  obtain ⟨v, hv⟩ : ∃ v, validIns i = v := ⟨_, rfl⟩
  have HB := hid hv
  obtain ⟨op, a, b, n⟩ := i
  have hV : (IIns.mk op a b n).val = .agg #[.int .i64 op, .int .i64 a, .int .i64 b, .int .i64 n] := rfl
  have HVal := hid hV
  rw [hV]
  clear hV hv
  have HX0 := hid (Row.new w 24 #[.int .i64 op, .int .i64 a, .int .i64 b, .int .i64 n])
  have HB0 := hid ((Below.refl w.heap.size w).alloc (Nat.le_refl _) (.cells #[.int .i64 op, .int .i64 a, .int .i64 b, .int .i64 n] 24))
  go_enter Tryd.func7, Tryd.ntmps7
  go_wp2_with fail
  generalize w.alloc (.cells #[.int .i64 op, .int .i64 a, .int .i64 b, .int .i64 n] 24) = w0 at HX0 HB0 ⊢
  rw [← HVal.out]
  refine (validIns_c ⟨op, a, b, n⟩ w0).mono ?_
  rintro e w1 ⟨rfl, hb1⟩
  have HX1 := hid (HX0.out.on hb1)
  have HB1 := hid (HB0.out.trans (hb1.mono HB0.out.size))
  clear hb1
  rw [HB.out, HVal.out]
  have i0 := HX1.out.cell 0
  have i1 := HX1.out.cell 1
  have i2 := HX1.out.cell 2
  have i3 := HX1.out.cell 3
  simp at i0 i1 i2 i3
  cases v
  · obtain rfl : s = ⟨#[]⟩ := by rw [← HS.out, textOf, HB.out]; rfl
    go_wp2_with fail
    go_ret
    exact ⟨rfl, HB1.out⟩
  · have hq : sText ⟨op, a, b, n⟩ = s := by rw [← HS.out, textOf, HB.out]; rfl
    have HQ := hid hq
    have hbd := hid (valid_bounds HB.out)
    clear hq
    go_wp2_with fail
    rw [← HVal.out]
    refine (sInsText_c ⟨op, a, b, n⟩ w1 hbd.out.o0 hbd.out.o1 ⟨by have := hbd.out.a0; omega, by have := hbd.out.a1; omega⟩ ⟨by have := hbd.out.b0; omega, by have := hbd.out.b1; omega⟩ ⟨by have := hbd.out.n0; omega, by have := hbd.out.n1; omega⟩ ?_).mono ?_
    · intro h28
      have h := HB.out
      obtain rfl : op = 28 := h28
      simp [validIns, validAt, stab, inRange] at h
      simp only
      omega
    rw [HQ.out, HVal.out]
    rintro e w2 ⟨rfl, hb2⟩
    have HB2 := hid (HB1.out.trans (hb2.mono HB1.out.size))
    clear hb2
    go_wp2_with fail
    go_ret
    exact ⟨rfl, HB2.out⟩
end Go.Proofs.YtcpkkedhgmnonaaDoor.Tx
