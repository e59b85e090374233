/- The walk of the law of OrderOf. -/
import Derived.Test.YtbbhbjdpdhbjlaaGe
set_option linter.unusedSimpArgs false
set_option linter.unusedVariables false
namespace Go.Proofs.Ytbbhbjdpdhbjlaa.Ge
open Go.RowKit Pl Ft Mm In Gp Sr

theorem SpecInList_c (xs : List Int) (x : Int) (v : Value) (w : World) (h : Rd w v xs) (hl : xs.length ≤ 4611686018427387904) :
    Calls Try.prog 23 #[v, .int .i64 x] w fun e w' => e = .returned (.bool (decide (x ∈ xs))) ∧ w' = w := by
  have HR := hid h
  obtain ⟨a, cap, rfl⟩ := Rd.slice h
  clear h
  go_enter Try.func23, Try.ntmps23
  go_wp2_with fail
  refine (inList_c xs x _ w HR.out hl).mono ?_
  rintro e w1 ⟨rfl, rfl⟩
  go_wp2_with fail
  go_ret
  exact ⟨rfl, rfl⟩
/-- One of the first k nodes of an order leads to node i of it. -/
def ComesP (g : List (List Int)) (os : List Int) (i k : Nat) : Prop := ∃ j, j < k ∧ os.getD i 0 ∈ g.getD (os.getD j 0).toNat []
theorem comes_succ {g : List (List Int)} {os : List Int} {i k : Nat} : ComesP g os i (k + 1) ↔ ComesP g os i k ∨ os.getD i 0 ∈ g.getD (os.getD k 0).toNat [] := by
  constructor
  · rintro ⟨j, hj, hm⟩
    by_cases hjk : j < k
    · exact .inl ⟨j, hjk, hm⟩
    · obtain rfl : j = k := by omega
      exact .inr hm
  · rintro (⟨j, hj, hm⟩ | hm)
    · exact ⟨j, by omega, hm⟩
    · exact ⟨k, by omega, hm⟩
theorem orderS_ok {g : List (List Int)} (h : orderS g ≠ []) : okG g = true := by
  unfold orderS at h
  split at h
  · assumption
  · exact absurd rfl h
theorem orderS_comes {g : List (List Int)} {i : Nat} (h : okG g = true) (h0 : 0 < i) (hi : i < (orderS g).length) : ComesP g (orderS g) i i := by
  have hL := adj_bd h
  unfold orderS at hi ⊢
  rw [if_pos h] at hi ⊢
  rw [natI_len] at hi
  obtain ⟨k, hk, hm⟩ := order_comes hL h0 hi
  refine ⟨k, hk, ?_⟩
  have hkl : k < (orderP (adj g)).length := by omega
  have hkN := order_lt hL ((orderP (adj g)).getD k 0) (by simp [hkl])
  rw [natI_get _ _ hi, natI_get _ _ hkl, Int.toNat_natCast, ← adj_nat h hkN]
  exact mem_natI'.2 hm
theorem orderS_at {g : List (List Int)} {k : Nat} (hk : k < (orderS g).length) : ∃ q : Nat, (orderS g).getD k 0 = q ∧ q < g.length := by
  have h := orderS_ok (g := g) (fun e => by rw [e] at hk; simp at hk)
  have hL := adj_bd h
  unfold orderS at hk ⊢
  rw [if_pos h] at hk ⊢
  rw [natI_len] at hk
  exact ⟨_, natI_get _ _ hk, order_lt hL _ (by simp [hk])⟩
theorem sz_get {g : List (List Int)} (h : Sz g) (p : Nat) : (g.getD p []).length ≤ 1048576 := by
  by_cases hp : p < g.length
  · exact h.each p hp
  · simp [show g[p]? = none by simp; omega]
set_option maxRecDepth 100000 in
set_option maxHeartbeats 4000000 in
theorem orderOf_w (a : Option Addr) (len cap : Nat) (zs : List Int) (w : World) (hB : Bytes w a len zs) :
    Calls Try.prog 4 #[.slice a len cap] w fun e w' => e = .returned (.bool true) ∧ Below w.heap.size w w' := by
  have hs := hB.small
  have H := hid hB
  clear hB
  go_enter Try.func4, Try.ntmps4
  go_wp2_with fail
  refine (drawOrderOf_c a len cap zs w H.out).mono ?_
  rintro e w1 ⟨v1, g, rfl, hg, hg1, hz, b1⟩
  obtain ⟨sg, cg, rfl⟩ := hg.slice
  have HG := hid hg
  have HZ := hid hz
  have hgl := hz.len
  have B1 := hid b1
  clear hg hz b1
  have hol := orderS_len g
  have HCm := hid (fun i (h : okG g = true) => orderS_comes (g := g) (i := i) h)
  have HAt := hid (fun k => orderS_at (g := g) (k := k))
  have HOk := hid (orderS_ok (g := g))
  obtain ⟨os, hos⟩ : ∃ os, orderS g = os := ⟨_, rfl⟩
  have HOs := hid hos
  rw [hos] at hol HCm HAt HOk
  clear hos
  go_wp2_with fail
  refine (orderOf_c g _ _ w1 HG.out HZ.out).mono ?_
  rw [HOs.out]
  rintro e w2 ⟨v2, rfl, hown2, hb2⟩
  obtain ⟨s2, c2, rfl⟩ := own_slice hown2
  have HO2 := hid hown2
  have HG2 := hid (HG.out.on hb2)
  have B2 := hid (B1.out.trans (hb2.mono B1.out.size))
  clear hown2 hb2
  go_wp2_with fail
  refine (sOrderOf_c g _ _ w2 HG2.out HZ.out).mono ?_
  rw [HOs.out]
  rintro e w3 ⟨v3, rfl, hown3, hb3⟩
  obtain ⟨s3, c3, rfl⟩ := own_slice hown3
  have HO3 := hid hown3
  have HP3 := hid (own_on HO2.out hb3)
  have HG3 := hid (HG2.out.on hb3)
  have B3 := hid (B2.out.trans (hb3.mono B2.out.size))
  clear hown3 hb3
  go_wp2_with fail
  refine (SameInts_b os _ _ w3 (.of_own HP3.out) (.of_own HO3.out) (by omega)).mono ?_
  rintro e w4 ⟨rfl, hb4⟩
  have HP4 := hid (own_on HP3.out hb4)
  have HG4 := hid (HG3.out.on hb4)
  have B4 := hid (B3.out.trans (hb4.mono B3.out.size))
  clear hb4
  by_cases h0 : os = []
  · subst h0
    go_wp2_with fail
    go_ret
    exact ⟨rfl, B4.out⟩
  have hpos : 0 < os.length := List.length_pos_iff.2 h0
  have hne : ((os.length : Int) == 0) = false := by rw [beq_eq_false_iff_ne]; omega
  have hne2 : ¬ os.length = 0 := by omega
  have hok := HOk.out h0
  have HCm2 := hid (fun i => HCm.out i hok)
  clear h0 hok
  go_wp2_with fail
  go_loopw [7] (fun y wr => ∃ i : Nat, y = .int .i64 i ∧ 1 ≤ i ∧ i ≤ os.length ∧ GAt w1.heap.size wr (.slice sg g.length cg) g ∧ wr.ownsRow w1.heap.size 3 1 (.slice s2 os.length c2) os.length (ints os) ∧ Below w.heap.size w wr) (fun y _ => os.length - (intOf y).toNat)
  case atStart => exact ⟨1, rfl, by omega, by omega, HG4.out, HP4.out, B4.out⟩
  case round =>
    obtain ⟨i, rfl, hi1, hi, hG, hO, hB⟩ := hrel
    have HGr := hid hG
    have HOr := hid hO
    have HBr := hid hB
    clear hG hO hB
    by_cases hlt : i < os.length
    case neg =>
      obtain rfl : i = os.length := by omega
      go_wp2_with fail
      go_ret
      exact ⟨rfl, HBr.out⟩
    have HCi := hid (HCm2.out i (by omega) hlt)
    go_wp2_with fail
    go_loopw [8, 9] (fun cv y wq => ∃ (k : Nat) (c : Bool), y = .int .i64 k ∧ cv = .bool c ∧ k ≤ i ∧ (c = true ↔ ComesP g os i k) ∧ GAt w1.heap.size wq (.slice sg g.length cg) g ∧ wq.ownsRow w1.heap.size 3 1 (.slice s2 os.length c2) os.length (ints os) ∧ Below w.heap.size w wq) (fun _ y _ => i - (intOf y).toNat)
    case atStart => exact ⟨0, false, rfl, rfl, by omega, ⟨fun h => absurd h (by simp), fun ⟨j, hj, _⟩ => absurd hj (by omega)⟩, HGr.out, HOr.out, HBr.out⟩
    case round =>
      obtain ⟨k, c, rfl, rfl, hk, hc, hG, hO, hB⟩ := hrel
      have HGk := hid hG
      have HOk := hid hO
      have HBk := hid hB
      have HC := hid hc
      clear hG hO hB hc
      by_cases hki : k < i
      case neg =>
        obtain rfl : k = i := by omega
        obtain rfl : c = true := HC.out.2 HCi.out
        go_wp2_with fail
        exact ⟨⟨k + 1, by go_num, by omega, by omega, HGk.out, HOk.out, HBk.out⟩, by simp only [intOf]; omega⟩
      cases c
      case true =>
        have HC2 := hid (comes_succ.2 (.inl (HC.out.1 rfl)))
        go_wp2_with fail
        go_quiet (fail)
        have hqb := In.below_drewN wr nq
        obtain ⟨w9, hw9⟩ : ∃ w9, wr.drewN nq = w9 := ⟨_, rfl⟩
        rw [hw9] at hqb ⊢
        have HOq := hid (own_on HOk.out hqb)
        have HGq := hid (HGk.out.on hqb)
        have HBq := hid (HBk.out.trans (hqb.mono HBk.out.size))
        clear hw9 hqb
        go_wp2_with fail
        exact ⟨⟨k + 1, true, by go_num, rfl, by omega, ⟨fun _ => HC2.out, fun _ => rfl⟩, HGq.out, HOq.out, HBq.out⟩, by simp only [intOf]; omega⟩
      case false =>
        obtain ⟨p, hpe, hpN⟩ := HAt.out k (by omega)
        obtain ⟨x, hxe⟩ : ∃ x, os.getD i 0 = x := ⟨_, rfl⟩
        obtain ⟨l, hl9⟩ : ∃ l, g.getD p [] = l := ⟨_, rfl⟩
        have HC2 := hid (show ComesP g os i (k + 1) ↔ x ∈ l by
          rw [comes_succ, hpe, Int.toNat_natCast, hxe, hl9]
          exact ⟨fun h => h.elim (fun h => absurd (HC.out.2 h) (by simp)) id, .inr⟩)
        have hll := sz_get HZ.out p
        obtain ⟨b, o, cap, u, su, cu, hve, rfl, q2, hru, hku, hbB⟩ := HGk.out.get hpN
        simp only [Value.slice.injEq, true_and] at hve
        obtain ⟨rfl, rfl⟩ := hve
        rw [hl9] at q2 hru hll
        have HRu := hid hru
        obtain ⟨a9, c9, e9, h9⟩ := Rd.of_own HOk.out
        rcases h9 with h9 | ⟨b3, o3, rfl, hb3, hc3⟩
        · rw [h9] at hlt; simp at hlt
        simp only [Value.slice.injEq, true_and, and_true] at e9
        obtain ⟨rfl, rfl⟩ := e9
        have q1 := hc3 k (by omega)
        have q3 := hc3 i hlt
        rw [hpe] at q1
        rw [hxe] at q3
        have hk1 : (k : Int) < os.length := by omega
        have hk0 : 0 ≤ (k : Int) := by omega
        have hi2 : (i : Int) < os.length := by omega
        have hi0 : 0 ≤ (i : Int) := by omega
        have hp1 : (p : Int) < g.length := by omega
        have hp0 : 0 ≤ (p : Int) := by omega
        have hll4 : l.length ≤ 4611686018427387904 := by omega
        have hin : ∀ n, Calls Try.prog 23 #[.slice su l.length cu, .int .i64 x] (wr.drewN n) fun e w'' => e = .returned (.bool (decide (x ∈ l))) ∧ ∃ m, w'' = wr.drewN m := fun n => Calls.quiet_of_same (SpecInList_c l x (.slice su l.length cu) (wr.drewN n) (Rd.on (w := wr) HRu.out (In.below_drewN wr n)) hll4)
        clear hc3 hru hku hbB hl9 hpe hxe hll
        go_wp2_with fail
        go_quiet ((go_at_call 23; exact hin _))
        have hqb := In.below_drewN wr nq
        obtain ⟨w9, hw9⟩ : ∃ w9, wr.drewN nq = w9 := ⟨_, rfl⟩
        rw [hw9] at hqb ⊢
        have HOq := hid (own_on HOk.out hqb)
        have HGq := hid (HGk.out.on hqb)
        have HBq := hid (HBk.out.trans (hqb.mono HBk.out.size))
        clear hw9 hqb hin q1 q2 q3
        go_wp2_with fail
        exact ⟨⟨k + 1, decide (x ∈ l), by go_num, rfl, by omega, by rw [HC2.out]; exact decide_eq_true_iff, HGq.out, HOq.out, HBq.out⟩, by simp only [intOf]; omega⟩
end Go.Proofs.Ytbbhbjdpdhbjlaa.Ge
