/- The bytes of an image: withText, sumOf of the program, checkOf of the model. -/
import Derived.Test.YtihhpgklpichgabIm4
import Derived.Test.YtihhpgklpichgabC2f
set_option linter.unusedSimpArgs false
set_option linter.unusedVariables false
namespace Go.Proofs.Ytihhpgklpichgab.Im
open Go.RowKit Pl Ft Mm In C2

theorem text_succ (s : ByteArray) (k : Nat) (h : k < s.size) : (textInts s).take (k + 1) = (textInts s).take k ++ [(s[k].toNat : Int)] := by
  have hl : k < (textInts s).length := by rw [textInts_len]; exact h
  rw [List.take_succ_eq_append_getElem hl]
  have e : (textInts s)[k] = (s[k].toNat : Int) := by
    have := letters_get s k h
    simp only [textInts, List.getElem_map]
    rw [this]
  rw [e]
set_option maxHeartbeats 1000000 in
theorem withText_c (B : Nat) (xs : List Int) (s : ByteArray) (v : Value) (w : World) (hown : w.ownsRow B 3 1 v xs.length (ints xs)) (hB : B ≤ w.heap.size) (hs : s.size ≤ 1048576) (hxs : xs.length ≤ 1000000) :
    Calls Try.prog 85 #[v, .string s] w fun e w' => ∃ v', e = .returned v' ∧ w'.ownsRow B 3 1 v' (xs ++ textInts s).length (ints (xs ++ textInts s)) ∧ Below B w w' := by
  have HO := hid hown
  clear hown
  obtain ⟨i0, hi, hz0, hz1, hz2⟩ := info_parts info_int
  have H0 := hid hz0
  have H1 := hid hz1
  have H2 := hid hz2
  have HI := hid hi
  clear hz0 hz1 hz2 hi
  go_enter Try.func85, Try.ntmps85
  go_wp2
  go_loopw [0, 8] (fun v c wr => ∃ k : Nat, c = .int .i64 k ∧ k ≤ s.size ∧ wr.ownsRow B 3 1 v (xs ++ (textInts s).take k).length (ints (xs ++ (textInts s).take k)) ∧ Below B w wr) (fun _ c _ => s.size - (intOf c).toNat)
  case atStart => exact ⟨0, rfl, by omega, by simpa using HO.out, Below.refl _ _⟩
  case round =>
    obtain ⟨k, rfl, hk, hown, hbel⟩ := hrel
    have hlen : (xs ++ (textInts s).take k).length = xs.length + k := by rw [List.length_append, List.length_take, textInts_len]; omega
    have HOw := hid hown
    have HBe := hid hbel
    have hsz : B ≤ wr.heap.size := by have := hbel.size; omega
    have HL := hid hlen
    clear hown hbel hlen
    by_cases hlt : k < s.size
    · have hu := s[k].toNat_lt
      obtain ⟨y, hy⟩ : ∃ y, s[k].toNat = y := ⟨_, rfl⟩
      have HY := hid hy
      go_wp2_with (at_builtin; refine wpList_append_own _ rfl _ _ 22 rfl B 3 i0 (.int .i64 0) 1 8 Try.underlying22 HI.out H0.out H1.out H2.out rfl (by decide) _ _ _ rfl (HOw.out.alloc _) ⟨wr.heap.size, 0, none⟩ 1 1 [.int .i64 y] rfl rfl ?c1 ?c2 ?c3 ?c4 ?c5 ?_)
      case c1 => exact new_cells wr _ _ _ rfl
      case c2 => intro u hu; simp at hu; subst hu; rfl
      case c3 => have := HL.out; simp only [maxLen]; omega
      case c4 => have := HL.out; omega
      case c5 => simp; omega
      intro v' w1 hown' hgrow _
      have hfin : w1.ownsRow B 3 1 v' (xs ++ (textInts s).take (k + 1)).length (ints (xs ++ (textInts s).take (k + 1))) := by
        have e1 : (xs ++ (textInts s).take (k + 1)).length = (xs ++ (textInts s).take k).length + 1 := by rw [text_succ s k hlt]; simp only [List.length_append, List.length_cons, List.length_nil]; omega
        have e2 : ints (xs ++ (textInts s).take (k + 1)) = ints (xs ++ (textInts s).take k) ++ [.int .i64 y] := by
          rw [text_succ s k hlt, HY.out, ← List.append_assoc, ints_append]; rfl
        rw [e1, e2, List.length_append, List.length_take]
        exact hown'
      have HF := hid hfin
      have HB2 := hid ((HBe.out.alloc hsz _).grown hgrow (by simp; omega) (fun g hg => (HOw.out.lt g hg).1))
      clear hown' hgrow hfin hy
      go_wp2
      go_roundw
      case rel => exact ⟨k + 1, by go_num, by omega, HF.out, HB2.out⟩
      case measure => simp [intOf]; omega
    · obtain rfl : k = s.size := by omega
      have he : (textInts s).take s.size = textInts s := List.take_of_length_le (by rw [textInts_len]; exact Nat.le_refl _)
      have HE := hid he
      clear he
      go_wp2
      go_ret
      exact ⟨_, rfl, by have := HOw.out; rwa [HE.out] at this, HBe.out⟩
set_option maxHeartbeats 1000000 in
theorem sumOf_c (xs : List Int) (v : Value) (w : World) (h : Rd w v xs) (hl : xs.length ≤ 100000) (hb : xs.all isByte = true) :
    Calls Try.prog 86 #[v] w fun e w' => e = .returned (.int .i64 (chk xs)) ∧ w = w' := by
  obtain ⟨a, ca, rfl, ha⟩ := h
  have HA := hid ha
  have HB := hid hb
  clear ha hb
  go_enter Try.func86, Try.ntmps86
  go_wp2
  go_loop [3, 8] (fun s c => ∃ k : Nat, c = .int .i64 k ∧ s = .int .i64 (sumTo xs k) ∧ k ≤ xs.length) (fun _ c => xs.length - (intOf c).toNat)
  case atStart => exact ⟨0, rfl, rfl, by omega⟩
  case round =>
    obtain ⟨k, rfl, rfl, hk⟩ := hrel
    have hsb := sumTo_bd xs HB.out k hk
    obtain ⟨s, hs⟩ : ∃ s, sumTo xs k = s := ⟨_, rfl⟩
    rw [hs] at hsb
    have HS := hid hs
    obtain ⟨s0, s1⟩ := hsb
    have hk5 : (k : Int) * (k + 1) ≤ 100000 * 100001 := by
      have h1 : (k : Int) ≤ 100000 := by omega
      exact Int.mul_le_mul h1 (by omega) (by omega) (by omega)
    have s2 : s ≤ 2550025500000 := by omega
    clear s1 hk5
    rw [hs]
    clear hs
    by_cases hlt : k < xs.length
    · rcases HA.out with h | ⟨g, o, rfl, hg, hc⟩
      · subst h; simp at hlt
      have q1 := hc k hlt
      have hx := isByte_iff.1 (List.all_eq_true.1 HB.out (xs.getD k 0) (by simp [hlt]))
      obtain ⟨x, hxe⟩ : ∃ x, xs.getD k 0 = x := ⟨_, rfl⟩
      rw [hxe] at q1 hx
      have HX := hid hxe
      obtain ⟨x0, x1⟩ := hx
      have p0 : 0 ≤ ((k : Int) + 1) * x := Int.mul_nonneg (by omega) x0
      have p1 : ((k : Int) + 1) * x ≤ 25600000 := by
        have h1 : ((k : Int) + 1) * x ≤ ((k : Int) + 1) * 255 := Int.mul_le_mul_of_nonneg_left x1 (by omega)
        omega
      clear hc hxe
      go_wp2_with fail
      go_round
      case rel => exact ⟨k + 1, by go_num, by show _ = Value.int .i64 (sumTo xs k + (k + 1) * xs.getD k 0); rw [HS.out, HX.out], by omega⟩
      case measure => simp [intOf]; omega
    · obtain rfl : k = xs.length := by omega
      go_wp2_with fail
      go_ret
      exact ⟨int_eq (by rw [chk, HS.out]), rfl⟩
set_option maxHeartbeats 1000000 in
theorem checkOf_c (xs : List Int) (v : Value) (w : World) (h : Rd w v xs) (hl : xs.length ≤ 100000) (hb : xs.all isByte = true) :
    Calls Try.prog 124 #[v] w fun e w' => e = .returned (.int .i64 (chk xs)) ∧ w = w' := by
  obtain ⟨a, ca, rfl, ha⟩ := h
  have HA := hid ha
  have HB := hid hb
  clear ha hb
  go_enter Try.func124, Try.ntmps124
  go_wp2
  go_loop [3, 4] (fun s c => ∃ k : Nat, c = .int .i64 k ∧ s = .int .i64 (sumTo xs k % 251) ∧ k ≤ xs.length) (fun _ c => xs.length - (intOf c).toNat)
  case atStart => exact ⟨0, rfl, rfl, by omega⟩
  case round =>
    obtain ⟨k, rfl, rfl, hk⟩ := hrel
    obtain ⟨s, hs⟩ : ∃ s, sumTo xs k = s := ⟨_, rfl⟩
    have HS := hid hs
    obtain ⟨r, hr⟩ : ∃ r, s % 251 = r := ⟨_, rfl⟩
    have r0 : 0 ≤ r := by omega
    have r1 : r ≤ 250 := by omega
    have HR := hid hr
    rw [hs, hr]
    clear hs hr
    by_cases hlt : k < xs.length
    · rcases HA.out with h | ⟨g, o, rfl, hg, hc⟩
      · subst h; simp at hlt
      have q1 := hc k hlt
      have hx := isByte_iff.1 (List.all_eq_true.1 HB.out (xs.getD k 0) (by simp [hlt]))
      obtain ⟨x, hxe⟩ : ∃ x, xs.getD k 0 = x := ⟨_, rfl⟩
      rw [hxe] at q1 hx
      have HX := hid hxe
      obtain ⟨x0, x1⟩ := hx
      have p0 : 0 ≤ ((k : Int) + 1) * x := Int.mul_nonneg (by omega) x0
      have p1 : ((k : Int) + 1) * x ≤ 25600000 := by
        have h1 : ((k : Int) + 1) * x ≤ ((k : Int) + 1) * 255 := Int.mul_le_mul_of_nonneg_left x1 (by omega)
        omega
      clear hc hxe
      go_wp2_with fail
      go_round
      case rel => exact ⟨k + 1, by go_num, by show _ = Value.int .i64 ((sumTo xs k + (k + 1) * xs.getD k 0) % 251); rw [HS.out, HX.out, ← mod_step s, HR.out], by omega⟩
      case measure => simp [intOf]; omega
    · obtain rfl : k = xs.length := by omega
      go_wp2_with fail
      go_ret
      exact ⟨int_eq (by rw [chk, HS.out, HR.out]), rfl⟩
end Go.Proofs.Ytihhpgklpichgab.Im
