/- withBytes and withText of the program: what they return, and that they write the list's own block alone. -/
import Derived.Test.YtihhpgklpichgabIm8
import Derived.Test.YtihhpgklpichgabApp
set_option linter.unusedSimpArgs false
set_option linter.unusedVariables false
namespace Go.Proofs.Ytihhpgklpichgab.Im
open Go.RowKit Pl Ft Mm In C2

theorem bytesOf_snoc (xs : List Int) (x : Int) (k : Nat) : xs ++ bytesOf x k ++ [dv x k % 256] = xs ++ bytesOf x (k + 1) := by rw [bytesOf_succ, List.append_assoc]
set_option maxHeartbeats 1000000 in
theorem withBytes_g (B : Nat) (xs : List Int) (x : Int) (m : Nat) (v0 : Value) (w : World) (hown : w.ownsRow B 3 1 v0 xs.length (ints xs)) (hB : B ≤ w.heap.size) (hm : m ≤ 2) (hxs : xs.length ≤ 1000000) (h0 : -9223372036854775808 ≤ x) (h1 : x ≤ 9223372036854775807) :
    Calls Try.prog 68 #[v0, .int .i64 x, .int .i64 m] w fun e w' => ∃ v', e = .returned v' ∧ Grows B (xs ++ bytesOf x m) v0 v' w w' := by
  have HO := hid (Grows.refl hown)
  clear hown
  go_enter Try.func68, Try.ntmps68
  go_wp2
  go_loopw [0, 1, 8] (fun v y c wr => ∃ k : Nat, c = .int .i64 k ∧ y = .int .i64 (dv x k) ∧ k ≤ m ∧ Grows B (xs ++ bytesOf x k) v0 v w wr) (fun _ _ c _ => m - (intOf c).toNat)
  case atStart => exact ⟨0, rfl, rfl, by omega, by simpa [bytesOf] using HO.out⟩
  case round =>
    obtain ⟨k, rfl, rfl, hk, hgr⟩ := hrel
    have hlen : (xs ++ bytesOf x k).length = xs.length + k := by rw [List.length_append, bytesOf_len]
    have HG := hid hgr
    have hsz : B ≤ wr.heap.size := by have := hgr.bel.size; omega
    have hd := dv_bd x h0 h1 k
    obtain ⟨hd0, hd1⟩ := hd
    have hand := and255 (dv x k)
    have HL := hid hlen
    clear hgr hlen
    by_cases hlt : k < m
    · go_wp2_with (at_builtin; refine app_ints _ rfl _ _ rfl B (xs ++ bytesOf x k) [dv x k % 256] _ rfl (HG.out.own.alloc _) _ _ _ rfl rfl (SrcAt.at_ _ [dv x k % 256] #[.int .i64 (dv x k % 256)] _ 1 rfl (by simp) rfl) (by have := HL.out; simp only [List.length_cons, List.length_nil]; omega) (by simp; omega) ?_)
      intro v' w1 hg1
      have HG1 := hid ((HG.out.more hB ((Below.refl _ _).alloc (Nat.le_refl _) (.cells #[.int .i64 (dv x k % 256)] 3))).trans hg1)
      rw [← bytesOf_succ] at HG1
      clear hg1
      go_wp2
      go_roundw
      case rel => exact ⟨k + 1, by go_num, rfl, by omega, HG1.out⟩
      case measure => simp [intOf]; omega
    · obtain rfl : k = m := by omega
      go_wp2
      go_ret
      exact ⟨_, rfl, HG.out⟩
theorem text_snoc (xs : List Int) (s : ByteArray) (k : Nat) (h : k < s.size) : xs ++ (textInts s).take k ++ [(s[k].toNat : Int)] = xs ++ (textInts s).take (k + 1) := by rw [text_succ s k h, List.append_assoc]
set_option maxHeartbeats 1000000 in
theorem withText_g (B : Nat) (xs : List Int) (s : ByteArray) (v0 : Value) (w : World) (hown : w.ownsRow B 3 1 v0 xs.length (ints xs)) (hB : B ≤ w.heap.size) (hs : s.size ≤ 1048576) (hxs : xs.length ≤ 1000000) :
    Calls Try.prog 85 #[v0, .string s] w fun e w' => ∃ v', e = .returned v' ∧ Grows B (xs ++ textInts s) v0 v' w w' := by
  have HO := hid (Grows.refl hown)
  clear hown
  go_enter Try.func85, Try.ntmps85
  go_wp2
  go_loopw [0, 8] (fun v c wr => ∃ k : Nat, c = .int .i64 k ∧ k ≤ s.size ∧ Grows B (xs ++ (textInts s).take k) v0 v w wr) (fun _ c _ => s.size - (intOf c).toNat)
  case atStart => exact ⟨0, rfl, by omega, by simpa using HO.out⟩
  case round =>
    obtain ⟨k, rfl, hk, hgr⟩ := hrel
    have hlen : (xs ++ (textInts s).take k).length = xs.length + k := by rw [List.length_append, List.length_take, textInts_len]; omega
    have HG := hid hgr
    have hsz : B ≤ wr.heap.size := by have := hgr.bel.size; omega
    have HL := hid hlen
    clear hgr hlen
    by_cases hlt : k < s.size
    · have hu := s[k].toNat_lt
      have hsn := text_succ s k hlt
      obtain ⟨y, hy⟩ : ∃ y, s[k].toNat = y := ⟨_, rfl⟩
      rw [hy] at hsn
      have HSn := hid hsn
      clear hsn
      go_wp2_with (at_builtin; refine app_ints _ rfl _ _ rfl B (xs ++ (textInts s).take k) [(y : Int)] _ rfl (HG.out.own.alloc _) _ _ _ rfl rfl (SrcAt.at_ _ [(y : Int)] #[.int .i64 y] _ 1 rfl (by simp) rfl) (by have := HL.out; simp only [List.length_cons, List.length_nil]; omega) (by simp; omega) ?_)
      intro v' w1 hg1
      have HG1 := hid ((HG.out.more hB ((Below.refl _ _).alloc (Nat.le_refl _) (.cells #[.int .i64 y] 3))).trans hg1)
      rw [← HSn.out] at HG1
      clear hg1 hy
      go_wp2
      go_roundw
      case rel => exact ⟨k + 1, by go_num, by omega, HG1.out⟩
      case measure => simp [intOf]; omega
    · obtain rfl : k = s.size := by omega
      have he : (textInts s).take s.size = textInts s := List.take_of_length_le (by rw [textInts_len]; exact Nat.le_refl _)
      have HE := hid he
      clear he
      go_wp2
      go_ret
      exact ⟨_, rfl, by have := HG.out; rwa [HE.out] at this⟩
end Go.Proofs.Ytihhpgklpichgab.Im
