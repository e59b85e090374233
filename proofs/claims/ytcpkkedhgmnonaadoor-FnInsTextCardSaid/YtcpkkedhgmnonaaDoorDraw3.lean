/- The draws of instructions (anyIns, DrawInsOk, DrawInsLong): what they return. -/
import Derived.Test.YtcpkkedhgmnonaaDoorDraw2
set_option linter.unusedSimpArgs false
set_option linter.unusedVariables false
namespace Go.Proofs.YtcpkkedhgmnonaaDoor.Src
open Go.RowKit Pl Ft Mm C2

set_option maxRecDepth 100000 in
set_option maxHeartbeats 2000000 in
theorem anyIns_c (at_ : Int) (at0 : 0 ≤ at_) (at1 : at_ ≤ 10000) (sb : Nat) (a : Option Addr) (len cap : Nat) (zs : List Int) (k : Int) (w : World) (h : Src w sb a len cap zs k) (hk : k ≤ 999999800) :
    Calls Tryd.prog 11 #[.pointer (some ⟨sb, 0, none⟩), .int .i64 at_] w (GotIns (fun _ => True) sb a len cap zs k 60 w) := by
  have HS := hid h
  have hsb := h.here
  clear h
  go_enter Tryd.func11, Tryd.ntmps11
  go_wp2_with fail
  refine (pick_c 31 sb a len cap zs k _ (HS.out.alloc _) (by omega) (by omega)).mono ?_
  rintro e w1 ⟨v1, k1, rfl, ⟨hv1, hv1'⟩, hk1, hk1', s1, m1⟩
  have S1 := hid s1
  have R1 := hid ((Row.new w 24 #[.int .i64 0, .int .i64 0, .int .i64 0, .int .i64 0]).moved m1 (by omega))
  have M1 := hid (((Moved.refl sb w).alloc (.cells #[.int .i64 0, .int .i64 0, .int .i64 0, .int .i64 0] 24)).trans m1)
  have hz1 := m1.size
  simp at hz1
  clear s1 m1
  go_wp2_with fail
  refine (ins_c v1 at_ hv1 (by omega) at0 at1 sb a len cap zs k1 _ S1.out (by omega)).mono ?_
  rintro e w2 ⟨i, k2, rfl, ⟨hsm, _⟩, hk2, hk2', s2, m2⟩
  obtain ⟨iop, ia, ib, n⟩ := i
  have HSm := hid hsm
  have S2 := hid (s2.alloc (.cells #[.int .i64 iop, .int .i64 ia, .int .i64 ib, .int .i64 n] 24))
  have R2 := hid ((R1.out.moved m2 (by omega)).alloc (.cells #[.int .i64 iop, .int .i64 ia, .int .i64 ib, .int .i64 n] 24))
  have M2 := hid ((M1.out.trans m2).alloc (.cells #[.int .i64 iop, .int .i64 ia, .int .i64 ib, .int .i64 n] 24))
  have hz2 := m2.size
  clear s2 m2 hsm
  unfold IIns.val
  simp only
  go_wp2_with fail
  refine (rare_c sb a len cap zs k2 _ S2.out (by omega)).mono ?_
  rintro e w3 ⟨rb, k3, rfl, hk3, hk3', s3, m3⟩
  have S3 := hid s3
  have R3 := hid (R2.out.moved m3 (by omega))
  have RI := hid ((Row.new w2 24 #[.int .i64 iop, .int .i64 ia, .int .i64 ib, .int .i64 n]).moved m3 (by omega))
  have M3 := hid (M2.out.trans m3)
  have hz3 := m3.size
  simp at hz3
  clear s3 m3
  cases rb
  · have q0 := RI.out.cell 0
    have q1 := RI.out.cell 1
    have q2 := RI.out.cell 2
    have q3 := RI.out.cell 3
    have o0 := R3.out.cell 0
    have o1 := R3.out.cell 1
    have o2 := R3.out.cell 2
    have o3 := R3.out.cell 3
    simp at q0 q1 q2 q3 o0 o1 o2 o3
    have oz := R3.out.free
    go_wp2_with fail
    refine bodyPost_ret (v := .agg #[.int .i64 iop, .int .i64 ia, .int .i64 ib, .int .i64 n]) (results_cell_row rfl _ _ w.heap.size 24 _ (0, 0) _ rfl (ins_row R3.out iop ia ib n) Tryd.underlying24 rfl rfl) rfl ?_
    exact ⟨⟨iop, ia, ib, n⟩, k3, rfl, ⟨HSm.out, trivial⟩, by omega, by omega, (((S3.out.fresh hsb _ _).fresh hsb _ _).fresh hsb _ _).fresh hsb _ _, (((M3.out.fresh (Nat.le_refl _) _ _).fresh (Nat.le_refl _) _ _).fresh (Nat.le_refl _) _ _).fresh (Nat.le_refl _) _ _⟩
  · go_wp2_with fail
    refine (pick_c 40 sb a len cap zs k3 _ S3.out (by omega) (by omega)).mono ?_
    rintro e w4 ⟨v4, k4, rfl, ⟨hv4, hv4'⟩, hk4, hk4', s4, m4⟩
    have S4 := hid s4
    have R4 := hid (R3.out.moved m4 (by omega))
    have M4 := hid (M3.out.trans m4)
    clear s4 m4
    go_wp2_with fail
    refine (pick_c 6 sb a len cap zs k4 _ S4.out (by omega) (by omega)).mono ?_
    rintro e w5 ⟨v5, k5, rfl, ⟨hv5, hv5'⟩, hk5, hk5', s5, m5⟩
    have S5 := hid s5
    have R5 := hid (R4.out.moved m5 (by omega))
    have M5 := hid (M4.out.trans m5)
    clear s5 m5
    go_wp2_with fail
    refine (pick_c 9 sb a len cap zs k5 _ S5.out (by omega) (by omega)).mono ?_
    rintro e w6 ⟨v6, k6, rfl, ⟨hv6, hv6'⟩, hk6, hk6', s6, m6⟩
    have S6 := hid s6
    have R6 := hid (R5.out.moved m6 (by omega))
    have M6 := hid (M5.out.trans m6)
    clear s6 m6
    go_wp2_with fail
    refine (word_c sb a len cap zs k6 _ S6.out (by omega)).mono ?_
    rintro e w7 ⟨v7, k7, rfl, ⟨hv7, hv7'⟩, hk7, hk7', s7, m7⟩
    have S7 := hid s7
    have R7 := hid (R6.out.moved m7 (by omega))
    have M7 := hid (M6.out.trans m7)
    clear s7 m7
    have o0 := R7.out.cell 0
    have o1 := R7.out.cell 1
    have o2 := R7.out.cell 2
    have o3 := R7.out.cell 3
    simp at o0 o1 o2 o3
    have oz := R7.out.free
    go_wp2_with fail
    refine bodyPost_ret (v := .agg #[.int .i64 (v4 - 2), .int .i64 (v5 - 1), .int .i64 v6, .int .i64 (v7 - 300)]) (results_cell_row rfl _ _ w.heap.size 24 _ (0, 0) _ rfl (ins_row R7.out (v4 - 2) (v5 - 1) v6 (v7 - 300)) Tryd.underlying24 rfl rfl) rfl ?_
    exact ⟨⟨v4 - 2, v5 - 1, v6, v7 - 300⟩, k7, rfl, ⟨⟨by simp only; omega, by simp only; omega, by simp only; omega, by simp only; omega, by simp only; omega, by simp only; omega, by simp only; omega, by simp only; omega⟩, trivial⟩, by omega, by omega, (((S7.out.fresh hsb _ _).fresh hsb _ _).fresh hsb _ _).fresh hsb _ _, (((M7.out.fresh (Nat.le_refl _) _ _).fresh (Nat.le_refl _) _ _).fresh (Nat.le_refl _) _ _).fresh (Nat.le_refl _) _ _⟩
end Go.Proofs.YtcpkkedhgmnonaaDoor.Src
