/- The text of an instruction: the program's and the model's are one; both InsText. No call but the two. -/
import Derived.Test.YtcpkkedhgmnonaaDoorTx2
import Derived.Test.YtcpkkedhgmnonaaDoorTx3
set_option linter.unusedSimpArgs false
set_option linter.unusedVariables false
namespace Go.Proofs.YtcpkkedhgmnonaaDoor.Tx
open Go.RowKit Pl Ft Mm In C2 Im

def parts33 : List (List ByteArray) := [[⟨#[104, 97, 108, 116]⟩],
   [⟨#[114, 101, 116]⟩],
   [⟨#[110, 111, 112]⟩],
   [⟨#[112, 117, 115, 104]⟩, ⟨#[114, 65]⟩],
   [⟨#[112, 111, 112]⟩, ⟨#[114, 65]⟩],
   [⟨#[111, 117, 116]⟩, ⟨#[114, 65]⟩],
   [⟨#[105, 110]⟩, ⟨#[114, 65]⟩],
   [⟨#[109, 111, 118, 101]⟩, ⟨#[114, 65]⟩, ⟨#[114, 66]⟩],
   [⟨#[108, 111, 119]⟩, ⟨#[114, 65]⟩, ⟨#[114, 66]⟩],
   [⟨#[97, 100, 100]⟩, ⟨#[114, 65]⟩, ⟨#[114, 66]⟩],
   [⟨#[115, 117, 98]⟩, ⟨#[114, 65]⟩, ⟨#[114, 66]⟩],
   [⟨#[109, 117, 108]⟩, ⟨#[114, 65]⟩, ⟨#[114, 66]⟩],
   [⟨#[97, 110, 100]⟩, ⟨#[114, 65]⟩, ⟨#[114, 66]⟩],
   [⟨#[111, 114]⟩, ⟨#[114, 65]⟩, ⟨#[114, 66]⟩],
   [⟨#[120, 111, 114]⟩, ⟨#[114, 65]⟩, ⟨#[114, 66]⟩],
   [⟨#[99, 109, 112]⟩, ⟨#[114, 65]⟩, ⟨#[114, 66]⟩],
   [⟨#[115, 101, 116]⟩, ⟨#[114, 65]⟩, ⟨#[78]⟩],
   [⟨#[97, 100, 100, 110]⟩, ⟨#[114, 65]⟩, ⟨#[78]⟩],
   [⟨#[99, 109, 112, 110]⟩, ⟨#[114, 65]⟩, ⟨#[78]⟩],
   [⟨#[108, 111, 97, 100]⟩, ⟨#[114, 65]⟩, ⟨#[114, 66]⟩, ⟨#[78]⟩],
   [⟨#[115, 116, 111, 114, 101]⟩, ⟨#[114, 65]⟩, ⟨#[114, 66]⟩, ⟨#[78]⟩],
   [⟨#[108, 111, 97, 100, 98]⟩, ⟨#[114, 65]⟩, ⟨#[114, 66]⟩, ⟨#[78]⟩],
   [⟨#[115, 116, 111, 114, 101, 98]⟩, ⟨#[114, 65]⟩, ⟨#[114, 66]⟩, ⟨#[78]⟩],
   [⟨#[108, 111, 99, 97, 108]⟩, ⟨#[114, 65]⟩, ⟨#[78]⟩],
   [⟨#[107, 101, 101, 112]⟩, ⟨#[114, 65]⟩, ⟨#[78]⟩],
   [⟨#[103, 114, 111, 119]⟩, ⟨#[78]⟩],
   [⟨#[100, 114, 111, 112]⟩, ⟨#[78]⟩],
   [⟨#[106, 117, 109, 112]⟩, ⟨#[78]⟩],
   [⟨#[106, 117, 109, 112]⟩, ⟨#[102, 97, 114]⟩, ⟨#[78]⟩],
   [⟨#[105, 102]⟩, ⟨#[67]⟩, ⟨#[78]⟩],
   [⟨#[105, 102]⟩, ⟨#[67]⟩, ⟨#[102, 97, 114]⟩, ⟨#[78]⟩],
   [⟨#[99, 97, 108, 108]⟩, ⟨#[78]⟩],
   [⟨#[116, 97, 98, 108, 101]⟩, ⟨#[114, 65]⟩, ⟨#[66]⟩, ⟨#[78]⟩]]
set_option maxRecDepth 100000 in
theorem pieces_tab : ∀ k, k < 33 → pieces (tab.getD k .none).text = parts33.getD k [] := by decide +kernel
theorem part_rA (i : IIns) : partOf ⟨#[114, 65]⟩ i = ⟨#[114]⟩ ++ txt i.a := by unfold partOf; rw [if_pos (by rw [ByteArray.toList_eq])]
theorem part_rB (i : IIns) : partOf ⟨#[114, 66]⟩ i = ⟨#[114]⟩ ++ txt i.b := by unfold partOf; rw [if_neg (by rw [ByteArray.toList_eq]; decide), if_pos (by rw [ByteArray.toList_eq])]
theorem part_B (i : IIns) : partOf ⟨#[66]⟩ i = txt i.b := by unfold partOf; rw [if_neg (by rw [ByteArray.toList_eq]; decide), if_neg (by rw [ByteArray.toList_eq]; decide), if_pos (by rw [ByteArray.toList_eq])]
theorem part_C (i : IIns) : partOf ⟨#[67]⟩ i = condWords.getD i.b.toNat ⟨#[]⟩ := by unfold partOf; rw [if_neg (by rw [ByteArray.toList_eq]; decide), if_neg (by rw [ByteArray.toList_eq]; decide), if_neg (by rw [ByteArray.toList_eq]; decide), if_pos (by rw [ByteArray.toList_eq])]
theorem part_N (i : IIns) : partOf ⟨#[78]⟩ i = txt i.n := by unfold partOf; rw [if_neg (by rw [ByteArray.toList_eq]; decide), if_neg (by rw [ByteArray.toList_eq]; decide), if_neg (by rw [ByteArray.toList_eq]; decide), if_neg (by rw [ByteArray.toList_eq]; decide), if_pos (by rw [ByteArray.toList_eq])]
theorem part_word (p : ByteArray) (i : IIns) (h : p.data.toList ∉ [[114, 65], [114, 66], [66], [67], [78]]) : partOf p i = p := by
  simp only [List.mem_cons, List.not_mem_nil, or_false, not_or] at h
  unfold partOf
  rw [ByteArray.toList_eq, if_neg h.1, if_neg h.2.1, if_neg h.2.2.1, if_neg h.2.2.2.1, if_neg h.2.2.2.2]
theorem data_app (x y : ByteArray) : (x ++ y).data.toList = x.data.toList ++ y.data.toList := by simp [ByteArray.data_append]
theorem bytes_ext {x y : ByteArray} (h : x.data.toList = y.data.toList) : x = y := by
  apply ByteArray.ext
  exact Array.ext' h
set_option maxRecDepth 100000 in
set_option maxHeartbeats 8000000 in
theorem text_at : ∀ k, k < 33 → ∀ i, takes (tab.getD k .none) i = true → insTextOf (tab.getD k .none) i = sText i := by
  intro k hk i ht
  obtain ⟨op, a, b, n⟩ := i
  rw [takes_iff] at ht
  unfold insTextOf outs
  rw [pieces_tab k hk]
  have : k = 0 ∨ k = 1 ∨ k = 2 ∨ k = 3 ∨ k = 4 ∨ k = 5 ∨ k = 6 ∨ k = 7 ∨ k = 8 ∨ k = 9 ∨ k = 10 ∨ k = 11 ∨ k = 12 ∨ k = 13 ∨ k = 14 ∨ k = 15 ∨ k = 16 ∨ k = 17 ∨ k = 18 ∨ k = 19 ∨ k = 20 ∨ k = 21 ∨ k = 22 ∨ k = 23 ∨ k = 24 ∨ k = 25 ∨ k = 26 ∨ k = 27 ∨ k = 28 ∨ k = 29 ∨ k = 30 ∨ k = 31 ∨ k = 32 := by omega
  rcases this with rfl | rfl | rfl | rfl | rfl | rfl | rfl | rfl | rfl | rfl | rfl | rfl | rfl | rfl | rfl | rfl | rfl | rfl | rfl | rfl | rfl | rfl | rfl | rfl | rfl | rfl | rfl | rfl | rfl | rfl | rfl | rfl | rfl
  all_goals
    obtain ⟨h1, h2, h3, h4⟩ := ht
    simp only [tab, List.getD_cons_zero, List.getD_cons_succ] at h1 h2
    subst h1
    simp [lo, hi] at h2
    by_cases e : a = 1
    all_goals
      first
        | (exfalso; omega)
        | (apply bytes_ext
           simp [e, parts33, part_rA, part_rB, part_B, part_C, part_N, part_word, Lib.join, List.intercalate, List.intersperse, sText, headOf, withA, withB, withN, farOf, isJump, stab, opWords, data_app])
theorem text_eq {i : IIns} {f : IForm} (h : formOf i = some f) : insTextOf f i = sText i := by
  obtain ⟨hm, ht⟩ := formOf_mem h
  exact tab_cases (fun f => ∀ i, takes f i = true → insTextOf f i = sText i) text_at f hm i ht
end Go.Proofs.YtcpkkedhgmnonaaDoor.Tx
