/- When lists of numbers are a graph: the program and the model. -/
import Derived.Test.YtbbhbjdpdhbjlaaGh
set_option linter.unusedSimpArgs false
set_option linter.unusedVariables false
namespace Go.Proofs.Ytbbhbjdpdhbjlaa.Ge
open Go.RowKit Pl Ft Mm In Gp

def edgesOk (n : Nat) (l : List Int) : Bool := decide (l.length ≤ 9) && l.all fun q : Int => decide (0 ≤ q) && decide (q < n)
def okG (g : List (List Int)) : Bool := decide (1 ≤ g.length) && decide (g.length ≤ 30) && g.all (edgesOk g.length)
theorem has_c (a : Option Addr) (n c : Nat) (x : Int) (w : World) (hn : n ≤ 4611686018427387904) :
    Calls Try.prog 92 #[.slice a n c, .int .i64 x] w fun e w' => e = .returned (.bool (decide (0 ≤ x) && decide (x < n))) ∧ w' = w := by
  by_cases h0 : 0 ≤ x
  · by_cases h1 : x < n
    · go_enter Try.func92, Try.ntmps92
      go_wp2_with fail
      go_ret
      exact ⟨bool_eq (by rw [Bool.eq_iff_iff]; simp <;> omega), rfl⟩
    · go_enter Try.func92, Try.ntmps92
      go_wp2_with fail
      go_ret
      exact ⟨bool_eq (by rw [Bool.eq_iff_iff]; simp <;> omega), rfl⟩
  · go_enter Try.func92, Try.ntmps92
    go_wp2_with fail
    go_ret
    exact ⟨bool_eq (by rw [Bool.eq_iff_iff]; simp <;> omega), rfl⟩
theorem all_take_succ {α : Type} (f : α → Bool) (l : List α) (k : Nat) (d : α) (h : k < l.length) : (l.take (k + 1)).all f = ((l.take k).all f && f (l.getD k d)) := by
  rw [List.take_succ_eq_append_getElem h, List.all_append]
  simp [h]
theorem all_no {α : Type} (f : α → Bool) (l : List α) (k : Nat) (d : α) (h : k < l.length) (hf : f (l.getD k d) = false) : l.all f = false := by
  rw [List.all_eq_false]
  refine ⟨l[k], List.getElem_mem h, ?_⟩
  rw [List.getD_eq_getElem?_getD, List.getElem?_eq_getElem h] at hf
  simpa using hf
set_option maxHeartbeats 1000000 in
theorem everyHas_c (l : List Int) (v : Value) (a : Option Addr) (n c : Nat) (w : World) (h : Rd w v l) (hl : l.length ≤ 4611686018427387904) (hn : n ≤ 4611686018427387904) :
    Calls Try.prog 91 #[v, .func (.func 92) #[.slice a n c] #[]] w fun e w' => e = .returned (.bool (l.all fun q : Int => decide (0 ≤ q) && decide (q < n))) ∧ w' = w := by
  obtain ⟨s, cs, rfl, ha⟩ := h
  have HA := hid ha
  clear ha
  obtain ⟨f, hf⟩ : ∃ f : Int → Bool, (fun q : Int => decide (0 ≤ q) && decide (q < n)) = f := ⟨_, rfl⟩
  have HF := hid hf
  rw [hf]
  clear hf
  go_enter Try.func91, Try.ntmps91
  go_wp2_with fail
  go_loop [9] (fun y => ∃ k : Nat, y = .int .i64 k ∧ k ≤ l.length ∧ (l.take k).all f = true) (fun y => l.length - (intOf y).toNat)
  case atStart => exact ⟨0, rfl, by omega, rfl⟩
  case round =>
    obtain ⟨k, rfl, hk, hall⟩ := hrel
    have HAll := hid hall
    clear hall
    by_cases hlt : k < l.length
    · rcases HA.out with h | ⟨g, o, rfl, hg, hc⟩
      · subst h; simp at hlt
      have q1 := hc k hlt
      have HSu := hid (all_take_succ f l k 0 hlt)
      have HNo := hid (all_no f l k 0 hlt)
      obtain ⟨x, hx⟩ : ∃ x, l.getD k 0 = x := ⟨_, rfl⟩
      rw [hx] at q1 HSu HNo
      clear hc hx
      go_wp2_with fail
      refine (has_c a n c x _ hn).mono ?_
      rintro e w1 ⟨rfl, rfl⟩
      have hfx : (decide (0 ≤ x) && decide (x < n)) = f x := by rw [← HF.out]
      rw [hfx]
      cases hb : f x
      · have HB := hid hb
        clear hb hfx
        go_wp2_with fail
        go_ret
        exact ⟨bool_eq (by rw [HNo.out HB.out]), rfl⟩
      · have HB := hid hb
        clear hb hfx
        go_wp2_with fail
        go_round
        case rel => exact ⟨k + 1, by go_num, by omega, by rw [HSu.out, HAll.out, HB.out]; rfl⟩
        case measure => simp [intOf]; omega
    · obtain rfl : k = l.length := by omega
      go_wp2_with fail
      go_ret
      exact ⟨bool_eq (by have := HAll.out; rw [List.take_length] at this; rw [this]), rfl⟩
set_option maxHeartbeats 1000000 in
theorem areEdges_c (l : List Int) (v : Value) (a : Option Addr) (n c : Nat) (w : World) (h : Rd w v l) (hl : l.length ≤ 4611686018427387904) (hn : n ≤ 4611686018427387904) :
    Calls Try.prog 70 #[.slice a n c, v] w fun e w' => e = .returned (.bool (edgesOk n l)) ∧ w' = w := by
  obtain ⟨s, cs, rfl⟩ := Rd.slice h
  have HR := hid h
  clear h
  by_cases h9 : l.length ≤ 9
  · go_enter Try.func70, Try.ntmps70
    go_wp2_with fail
    refine (everyHas_c l _ a n c _ HR.out hl hn).mono ?_
    rintro e w1 ⟨rfl, rfl⟩
    obtain ⟨b, hb⟩ : ∃ b, (l.all fun q : Int => decide (0 ≤ q) && decide (q < n)) = b := ⟨_, rfl⟩
    rw [hb]
    have HB := hid hb
    clear hb
    go_wp2_with fail
    go_ret
    refine ⟨bool_eq ?_, rfl⟩
    unfold edgesOk
    rw [HB.out, decide_eq_true h9, Bool.true_and]
  · go_enter Try.func70, Try.ntmps70
    go_wp2_with fail
    go_ret
    refine ⟨bool_eq ?_, rfl⟩
    unfold edgesOk
    rw [decide_eq_false h9, Bool.false_and]
set_option maxHeartbeats 1000000 in
theorem everyEdges_c (g : List (List Int)) (v : Value) (a : Option Addr) (n c : Nat) (w : World) (h : GRd w v g) (hl : g.length ≤ 4611686018427387904) (hs : ∀ j, j < g.length → (g.getD j []).length ≤ 4611686018427387904) (hn : n ≤ 4611686018427387904) :
    Calls Try.prog 69 #[v, .func (.func 70) #[.slice a n c] #[]] w fun e w' => e = .returned (.bool (g.all (edgesOk n))) ∧ w' = w := by
  obtain ⟨s, cs, rfl, ha⟩ := h
  have HA := hid ha
  have HS := hid hs
  clear ha hs
  obtain ⟨f, hf⟩ : ∃ f : List Int → Bool, edgesOk n = f := ⟨_, rfl⟩
  have HF := hid hf
  rw [hf]
  clear hf
  go_enter Try.func69, Try.ntmps69
  go_wp2_with fail
  go_loop [9] (fun y => ∃ k : Nat, y = .int .i64 k ∧ k ≤ g.length ∧ (g.take k).all f = true) (fun y => g.length - (intOf y).toNat)
  case atStart => exact ⟨0, rfl, by omega, rfl⟩
  case round =>
    obtain ⟨k, rfl, hk, hall⟩ := hrel
    have HAll := hid hall
    clear hall
    by_cases hlt : k < g.length
    · rcases HA.out with h | ⟨b, o, rfl, hg, hc⟩
      · subst h; simp at hlt
      obtain ⟨u, q1, hru⟩ := hc k hlt
      have hsk := HS.out k hlt
      have HSu := hid (all_take_succ f g k [] hlt)
      have HNo := hid (all_no f g k [] hlt)
      obtain ⟨l, hx⟩ : ∃ x, g.getD k [] = x := ⟨_, rfl⟩
      rw [hx] at hru hsk HSu HNo
      obtain ⟨su, cu, rfl⟩ := Rd.slice hru
      have HRu := hid hru
      have HSk := hid hsk
      clear hc hx hru hsk
      go_wp2_with fail
      refine (areEdges_c l _ a n c _ HRu.out HSk.out hn).mono ?_
      rintro e w1 ⟨rfl, rfl⟩
      rw [HF.out]
      cases hb : f l
      · have HB := hid hb
        clear hb
        go_wp2_with fail
        go_ret
        exact ⟨bool_eq (by rw [HNo.out HB.out]), rfl⟩
      · have HB := hid hb
        clear hb
        go_wp2_with fail
        go_round
        case rel => exact ⟨k + 1, by go_num, by omega, by rw [HSu.out, HAll.out, HB.out]; rfl⟩
        case measure => simp [intOf]; omega
    · obtain rfl : k = g.length := by omega
      go_wp2_with fail
      go_ret
      exact ⟨bool_eq (by have := HAll.out; rw [List.take_length] at this; rw [this]), rfl⟩
/-- Lists of numbers that are as great as an argument may be. -/
structure Sz (g : List (List Int)) : Prop where
  len : g.length ≤ 1048576
  each : ∀ j, j < g.length → (g.getD j []).length ≤ 1048576
theorem Sz.each4 {g : List (List Int)} (h : Sz g) (j : Nat) (hj : j < g.length) : (g.getD j []).length ≤ 4611686018427387904 := by have := h.each j hj; omega
set_option maxHeartbeats 1000000 in
theorem ok_c (g : List (List Int)) (v : Value) (w : World) (h : GRd w v g) (hs : Sz g) :
    Calls Try.prog 47 #[v] w fun e w' => e = .returned (.bool (okG g)) ∧ w' = w := by
  obtain ⟨s, cs, rfl⟩ := h.slice
  have HR := hid h
  have HS := hid hs
  have hl := hs.len
  clear h hs
  by_cases h1 : 1 ≤ g.length
  · by_cases h2 : g.length ≤ 30
    · go_enter Try.func47, Try.ntmps47
      go_wp2_with fail
      refine (everyEdges_c g _ _ _ _ _ HR.out (by omega) HS.out.each4 (by omega)).mono ?_
      rintro e w1 ⟨rfl, rfl⟩
      obtain ⟨b, hb⟩ : ∃ b, (g.all (edgesOk g.length)) = b := ⟨_, rfl⟩
      rw [hb]
      have HB := hid hb
      clear hb
      go_wp2_with fail
      go_ret
      refine ⟨bool_eq ?_, rfl⟩
      unfold okG
      rw [HB.out, decide_eq_true h1, decide_eq_true h2, Bool.true_and, Bool.true_and]
    · go_enter Try.func47, Try.ntmps47
      go_wp2_with fail
      go_ret
      refine ⟨bool_eq ?_, rfl⟩
      unfold okG
      rw [decide_eq_false h2, Bool.and_false, Bool.false_and]
  · go_enter Try.func47, Try.ntmps47
    go_wp2_with fail
    go_ret
    refine ⟨bool_eq ?_, rfl⟩
    unfold okG
    rw [decide_eq_false h1, Bool.false_and, Bool.false_and]
theorem graphOk_c (g : List (List Int)) (v : Value) (w : World) (h : GRd w v g) (hs : Sz g) :
    Calls Try.prog 17 #[v] w fun e w' => e = .returned (.bool (okG g)) ∧ w' = w := by
  have HR := hid h
  have HS := hid hs
  clear h hs
  go_enter Try.func17, Try.ntmps17
  go_wp2_with fail
  refine (ok_c g _ _ HR.out HS.out).mono ?_
  rintro e w1 ⟨rfl, rfl⟩
  go_wp2_with fail
  go_ret
  exact ⟨rfl, rfl⟩
theorem inRange_c (x a b : Int) (w : World) : Calls Try.prog 57 #[.int .i64 x, .int .i64 a, .int .i64 b] w fun e w' => e = .returned (.bool (decide (a ≤ x) && decide (x ≤ b))) ∧ w' = w := by
  by_cases h0 : a ≤ x
  · by_cases h1 : x ≤ b
    · go_enter Try.func57, Try.ntmps57
      go_wp2_with fail
      go_ret
      exact ⟨bool_eq (by rw [Bool.eq_iff_iff]; simp <;> omega), rfl⟩
    · go_enter Try.func57, Try.ntmps57
      go_wp2_with fail
      go_ret
      exact ⟨bool_eq (by rw [Bool.eq_iff_iff]; simp <;> omega), rfl⟩
  · go_enter Try.func57, Try.ntmps57
    go_wp2_with fail
    go_ret
    exact ⟨bool_eq (by rw [Bool.eq_iff_iff]; simp <;> omega), rfl⟩
theorem okG_no {g : List (List Int)} {k : Nat} (h : k < g.length) (he : edgesOk g.length (g.getD k []) = false) : okG g = false := by
  unfold okG
  rw [all_no _ g k [] h he, Bool.and_false]
set_option maxHeartbeats 2000000 in
theorem validGraph_c (g : List (List Int)) (v : Value) (w : World) (h : GRd w v g) (hs : Sz g) :
    Calls Try.prog 48 #[v] w fun e w' => e = .returned (.bool (okG g)) ∧ w' = w := by
  obtain ⟨s, cs, rfl, ha⟩ := h
  have HA := hid ha
  have HS := hid hs
  have hl := hs.len
  clear ha hs
  go_enter Try.func48, Try.ntmps48
  go_wp2_with fail
  go_loop [3] (fun y => ∃ k : Nat, y = .int .i64 k ∧ k ≤ g.length ∧ (g.take k).all (edgesOk g.length) = true) (fun y => g.length - (intOf y).toNat)
  case atStart => exact ⟨0, rfl, by omega, rfl⟩
  case round =>
    obtain ⟨k, rfl, hk, hall⟩ := hrel
    have HAll := hid hall
    clear hall
    by_cases hlt : k < g.length
    · rcases HA.out with h | ⟨b, o, rfl, hg, hc⟩
      · subst h; simp at hlt
      obtain ⟨u, q1, hru⟩ := hc k hlt
      have hsk := HS.out.each k hlt
      have HSu := hid (all_take_succ (edgesOk g.length) g k [] hlt)
      have HNo := hid (okG_no hlt)
      obtain ⟨l, hx⟩ : ∃ x, g.getD k [] = x := ⟨_, rfl⟩
      rw [hx] at hru hsk HSu HNo
      obtain ⟨su, cu, rfl, hrl⟩ := hru
      have HRl := hid hrl
      clear hc hx hrl
      by_cases h9 : l.length ≤ 9
      case neg =>
        have HE := hid (show edgesOk g.length l = false by unfold edgesOk; rw [decide_eq_false h9, Bool.false_and])
        go_wp2_with fail
        go_ret
        exact ⟨bool_eq (by rw [HNo.out HE.out]), rfl⟩
      go_wp2_with fail
      go_loop [4] (fun y => ∃ j : Nat, y = .int .i64 j ∧ j ≤ l.length ∧ (l.take j).all (fun q : Int => decide (0 ≤ q) && decide (q < g.length)) = true) (fun y => l.length - (intOf y).toNat)
      case atStart => exact ⟨0, rfl, by omega, rfl⟩
      case round =>
        obtain ⟨j, rfl, hj, hall⟩ := hrel
        have HAl2 := hid hall
        clear hall
        by_cases hjt : j < l.length
        · rcases HRl.out with h | ⟨b2, o2, rfl, hg2, hc2⟩
          · subst h; simp at hjt
          have q2 := hc2 j hjt
          have HSu2 := hid (all_take_succ (fun q : Int => decide (0 ≤ q) && decide (q < g.length)) l j 0 hjt)
          have HNo2 := hid (all_no (fun q : Int => decide (0 ≤ q) && decide (q < g.length)) l j 0 hjt)
          obtain ⟨x, hx⟩ : ∃ x, l.getD j 0 = x := ⟨_, rfl⟩
          rw [hx] at q2 HSu2 HNo2
          clear hc2 hx
          go_wp2_with fail
          refine (inRange_c x 0 _ _).mono ?_
          rintro e w1 ⟨rfl, rfl⟩
          have hxe : (decide (0 ≤ x) && decide (x ≤ (g.length : Int) - 1)) = (decide (0 ≤ x) && decide (x < g.length)) := by
            congr 1
            exact decide_eq_decide.2 (by omega)
          rw [hxe]
          obtain ⟨bx, hbx⟩ : ∃ bx, (decide (0 ≤ x) && decide (x < g.length)) = bx := ⟨_, rfl⟩
          rw [hbx]
          have HBx := hid hbx
          clear hxe hbx
          cases bx
          · go_wp2_with fail
            go_ret
            refine ⟨bool_eq ?_, rfl⟩
            rw [HNo.out]
            unfold edgesOk
            rw [HNo2.out HBx.out, Bool.and_false]
          · go_wp2_with fail
            go_round
            case rel => exact ⟨j + 1, by go_num, by omega, by rw [HSu2.out, HAl2.out, HBx.out]; rfl⟩
            case measure => simp [intOf]; omega
        · obtain rfl : j = l.length := by omega
          go_wp2_with fail
          go_round
          case rel =>
            refine ⟨k + 1, by go_num, by omega, ?_⟩
            have h2 := HAl2.out
            rw [List.take_length] at h2
            rw [HSu.out, HAll.out]
            unfold edgesOk
            rw [h2, decide_eq_true h9]
            rfl
          case measure => simp [intOf]; omega
    · obtain rfl : k = g.length := by omega
      go_wp2_with fail
      refine (inRange_c _ 1 30 _).mono ?_
      rintro e w1 ⟨rfl, rfl⟩
      have h2 := HAll.out
      rw [List.take_length] at h2
      have he : (decide (1 ≤ (g.length : Int)) && decide ((g.length : Int) ≤ 30)) = okG g := by
        unfold okG
        rw [h2, Bool.and_true]
        congr 1 <;> exact decide_eq_decide.2 (by omega)
      rw [he]
      clear h2 he
      go_wp2_with fail
      go_ret
      exact ⟨rfl, rfl⟩
theorem sGraphOk_c (g : List (List Int)) (v : Value) (w : World) (h : GRd w v g) (hs : Sz g) :
    Calls Try.prog 18 #[v] w fun e w' => e = .returned (.bool (okG g)) ∧ w' = w := by
  have HR := hid h
  have HS := hid hs
  clear h hs
  go_enter Try.func18, Try.ntmps18
  go_wp2_with fail
  refine (validGraph_c g _ _ HR.out HS.out).mono ?_
  rintro e w1 ⟨rfl, rfl⟩
  go_wp2_with fail
  go_ret
  exact ⟨rfl, rfl⟩
end Go.Proofs.Ytbbhbjdpdhbjlaa.Ge
