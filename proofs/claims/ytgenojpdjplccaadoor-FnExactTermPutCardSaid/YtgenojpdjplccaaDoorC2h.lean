/- Reading numbers: areBytes, isCode, numberIn, signedByte of the program: what they return. -/
import Derived.Test.YtgenojpdjplccaaDoorC2e
import Derived.Test.YtgenojpdjplccaaDoorInts
import Derived.IntWalk
set_option linter.unusedSimpArgs false
set_option linter.unusedVariables false
namespace Go.Proofs.YtgenojpdjplccaaDoor.C2
open Go.RowKit Pl Ft Mm In

def isByte (x : Int) : Bool := inR 7 x
theorem everyByte_c (xs : List Int) (v : Value) (w : World) (h : Rd w v xs) (hl : xs.length ≤ 4611686018427387904) :
    Calls Tryd.prog 99 #[v, .func (.func 100) #[.int .i64 7] #[]] w fun e w' => e = .returned (.bool (xs.all isByte)) ∧ w = w' := by
  obtain ⟨a, ca, rfl, ha⟩ := h
  have HA := hid ha
  clear ha
  go_enter Tryd.func99, Tryd.ntmps99
  go_wp2_with fail
  go_loop [9] (fun c => ∃ k : Nat, c = .int .i64 k ∧ k ≤ xs.length ∧ (xs.take k).all isByte = true) (fun c => xs.length - (intOf c).toNat)
  case atStart => exact ⟨0, rfl, by omega, rfl⟩
  case round =>
    obtain ⟨k, rfl, hk, hall⟩ := hrel
    have HAll := hid hall
    clear hall
    by_cases hlt : k < xs.length
    · rcases HA.out with h | ⟨g, o, rfl, hg, hc⟩
      · subst h; simp at hlt
      have q1 := hc k hlt
      clear hc
      have ht : xs.take (k + 1) = xs.take k ++ [xs.getD k 0] := by
        rw [List.take_succ_eq_append_getElem hlt]; simp [hlt]
      have hmem : xs.getD k 0 ∈ xs := by simp [hlt]
      obtain ⟨x, hx⟩ : ∃ x, xs.getD k 0 = x := ⟨_, rfl⟩
      rw [hx] at q1 ht hmem
      have HT := hid ht
      have HM := hid hmem
      clear ht hx hmem
      cases hb : inR 7 x
      · have hno : xs.all isByte = false := by
          rw [List.all_eq_false]
          exact ⟨x, HM.out, by simp [isByte, hb]⟩
        have HNo := hid hno
        have HB := hid hb
        clear hb hno
        go_wp2_with (go_at_call 100; refine (has_c _ _ _).mono ?_; rw [HB.out]; rintro e w' ⟨rfl, rfl⟩)
        go_ret
        exact ⟨bool_eq HNo.out.symm, rfl⟩
      · have HB := hid hb
        clear hb
        go_wp2_with (go_at_call 100; refine (has_c _ _ _).mono ?_; rw [HB.out]; rintro e w' ⟨rfl, rfl⟩)
        go_round
        case rel => exact ⟨k + 1, by go_num, by omega, by rw [HT.out, List.all_append, HAll.out]; simp [isByte, HB.out]⟩
        case measure => simp [intOf]; omega
    · obtain rfl : k = xs.length := by omega
      have he : xs.all isByte = true := by have := HAll.out; rwa [List.take_length] at this
      have HE := hid he
      clear he
      go_wp2_with fail
      go_ret
      exact ⟨bool_eq HE.out.symm, rfl⟩
theorem areBytes_c (xs : List Int) (v : Value) (w : World) (h : Rd w v xs) (hl : xs.length ≤ 4611686018427387904) :
    Calls Tryd.prog 58 #[v] w fun e w' => e = .returned (.bool (xs.all isByte)) ∧ w = w' := by
  have H := hid h
  obtain ⟨a, ca, rfl, _⟩ := h
  go_enter Tryd.func58, Tryd.ntmps58
  go_wp2_with fail
  refine (everyByte_c xs _ _ H.out hl).mono ?_
  rintro e w1 ⟨rfl, rfl⟩
  obtain ⟨b, hb⟩ : ∃ b, xs.all isByte = b := ⟨_, rfl⟩
  rw [hb]
  have HB := hid hb
  clear hb
  go_wp2_with fail
  go_ret
  exact ⟨bool_eq (by rw [HB.out]), rfl⟩
def isCode (xs : List Int) : Bool := decide (xs.length ≤ 2000) && xs.all isByte
def sgn (x : Int) : Int := if inR 6 x = true then x else x - 256
/-- The number that bytes tell, the lowest one first. -/
def numIn : List Int → Int
  | [] => 0
  | x :: l => x + 256 * numIn l
theorem or_zero (x : Int) (h0 : 0 ≤ x) (h1 : x ≤ 255) : bits .or .i64 0 x = x := by
  obtain ⟨n, rfl⟩ := Int.eq_ofNat_of_zero_le h0
  have := or_nat 0 n (by omega) (by omega)
  simpa using this
theorem or_join (y x : Int) (y0 : 0 ≤ y) (y1 : y ≤ 255) (x0 : 0 ≤ x) (x1 : x ≤ 255) : bits .or .i64 (y * 256) x = y * 256 + x :=
  bits_join .i64 16 (by decide) wraps_i64 8 _ _ (by omega) (by omega) (by omega) (by omega) (by omega) (by omega)
set_option maxHeartbeats 1000000 in
theorem numberIn_c (xs : List Int) (v : Value) (w : World) (h : Rd w v xs) (hl : xs.length ≤ 2) (hx : xs.all isByte = true) :
    Calls Tryd.prog 131 #[v] w fun e w' => e = .returned (.int .i64 (numIn xs)) ∧ w = w' := by
  obtain ⟨a, ca, rfl, ha⟩ := h
  match xs, hl, hx, ha with
  | [], _, _, ha =>
    clear ha
    go_enter Tryd.func131, Tryd.ntmps131
    go_wp2
    go_rounds 1
    go_ret
    exact ⟨rfl, rfl⟩
  | [x], _, hx, ha =>
    rcases ha with h | ⟨g, o, rfl, hg, hc⟩
    · cases h
    have c0 := hc 0 (by simp)
    simp at c0
    have hb : 0 ≤ x ∧ x ≤ 255 := by simpa [isByte, inR, lo, hi] using hx
    obtain ⟨x0, x1⟩ := hb
    clear hc hx
    go_enter Tryd.func131, Tryd.ntmps131
    go_wp2
    go_rounds 2
    go_ret
    exact ⟨int_eq (by rw [or_zero x x0 x1]; simp [numIn]), rfl⟩
  | [x, y], _, hx, ha =>
    rcases ha with h | ⟨g, o, rfl, hg, hc⟩
    · cases h
    have c0 := hc 0 (by simp)
    have c1 := hc 1 (by simp)
    simp at c0 c1
    have hb : (0 ≤ x ∧ x ≤ 255) ∧ (0 ≤ y ∧ y ≤ 255) := by simpa [isByte, inR, lo, hi] using hx
    obtain ⟨⟨x0, x1⟩, y0, y1⟩ := hb
    clear hc hx
    go_enter Tryd.func131, Tryd.ntmps131
    go_wp2
    go_rounds 3
    go_ret
    exact ⟨int_eq (by rw [or_zero y y0 y1, IntWalk.wrap64_in _ (by omega), or_join y x y0 y1 x0 x1]; simp [numIn]; omega), rfl⟩
end Go.Proofs.YtgenojpdjplccaaDoor.C2
