/- The drawn graph. -/
import Derived.Test.YtbbhbjdpdhbjlaaGa
set_option linter.unusedSimpArgs false
set_option linter.unusedVariables false
namespace Go.Proofs.Ytbbhbjdpdhbjlaa.Ge
open Go.RowKit Pl Ft Mm In Gp Sr

/-- A graph has been drawn, and the source stands further on. -/
def GotG (sb : Nat) (a : Option Addr) (len cap : Nat) (zs : List Int) (k : Int) (w : World) (e : Ending) (w' : World) : Prop :=
  ∃ (v : Value) (g : List (List Int)) (k' : Int), e = .returned v ∧ GAt w'.heap.size w' v g ∧ 1 ≤ g.length ∧ g.length ≤ 20 ∧ (∀ j, j < g.length → (g.getD j []).length ≤ 20) ∧ k ≤ k' ∧ k' ≤ k + 300 ∧ Src w' sb a len cap zs k' ∧ Moved sb w w' ∧ ∃ lo us, sb < lo ∧ GRows lo w' v g us
theorem gr_snoc {lo : Nat} {w w' : World} {v v' u : Value} {g : List (List Int)} {us : List Value} {l : List Int} (h : GRows lo w v g us) (hrow : w'.ownsRow lo 26 1 v' (us ++ [u]).length (us ++ [u])) (hu : w.ownsRow lo 3 1 u l.length (ints l)) (ho : Only (fun k => v.ownBlock = some k) w w') : GRows lo w' v' (g ++ [l]) (us ++ [u]) := by
  have hap : ∀ {y : Value} {n : Nat} {xs : List Value}, w.ownsRow lo 3 1 y n xs → w'.ownsRow lo 3 1 y n xs := fun hy => own_only hy (fun k hk h2 => by
    rcases h.row.2 with ⟨h3, _⟩ | ⟨g1, cap1, cur1, h3, _, hr1, _⟩
    · rw [h3] at h2; cases h2
    · rcases hy.2 with ⟨h4, _⟩ | ⟨g2, cap2, cur2, h4, _, hr2, _⟩
      · rw [h4] at hk; cases hk
      · rw [h3] at h2
        rw [h4] at hk
        simp only [Value.ownBlock, Option.some.injEq] at h2 hk
        rw [h2] at hr1
        rw [hk] at hr2
        rw [hr1] at hr2
        simp at hr2) ho
  refine ⟨by simp [h.len], hrow, fun j hj => ?_⟩
  rw [List.length_append, List.length_singleton] at hj
  rw [getD_snoc h.len, show (g ++ [l]).getD j [] = if j < g.length then g.getD j [] else l by
    rw [List.getD_eq_getElem?_getD, List.getElem?_append]
    split
    · rw [List.getD_eq_getElem?_getD]
    · simp [show j - g.length = 0 by omega]]
  by_cases hjg : j < g.length
  · rw [if_pos hjg, if_pos hjg]
    exact hap (h.lists j hjg)
  · rw [if_neg hjg, if_pos (by omega), if_neg hjg]
    exact hap hu
theorem moved_below {sb B : Nat} {w wr w' : World} (h : Moved sb w wr) (hb : Below B wr w') (hB : w.heap.size ≤ B) : Moved sb w w' :=
  ⟨hb.os.trans h.os, hb.tape.trans h.tape, hb.output.trans h.output, Nat.le_trans h.size hb.size, fun k hk hne => (hb.block k (by omega)).trans (h.block k hk hne)⟩
theorem snocS {sb W1 W2 : Nat} {a : Option Addr} {len cap : Nat} {zs : List Int} {k : Int} {w wX w6 : World} {v lv v6 : Value} {g : List (List Int)} {us : List Value} {ys : List Int} (hG : GRows W1 wX v g us) (hr : ∀ k, v.ownBlock = some k → k < W2) (hl : ∀ j, j < g.length → ∀ k, (us.getD j vz).ownBlock = some k → k < W2) (hS : Src wX sb a len cap zs k) (hM : Moved sb w wX) (hsb : sb < W2) (hw : w.heap.size ≤ W2) (hz : W2 ≤ wX.heap.size) (o : Obj) (hg : Grows W2 ys lv v6 (wX.alloc o) w6) : GRows W1 w6 v g us ∧ Src w6 sb a len cap zs k ∧ Moved sb w w6 ∧ W2 ≤ w6.heap.size := by
  have hb : Below W2 wX w6 := (((Below.refl wX.heap.size wX).alloc (Nat.le_refl _) o).mono hz).trans hg.bel
  exact ⟨GRows.below (w0 := wX) hG hr hl hb, src_below hS hb hsb, moved_below hM hb hw, Nat.le_trans hz hb.size⟩
set_option maxRecDepth 100000 in
set_option maxHeartbeats 8000000 in
theorem graph_c (sb : Nat) (a : Option Addr) (len cap : Nat) (zs : List Int) (k : Int) (w : World) (h : Src w sb a len cap zs k) (hk : k ≤ 900000000) :
    Calls Try.prog 46 #[.pointer (some ⟨sb, 0, none⟩)] w (GotG sb a len cap zs k w) := by
  have H := hid h
  clear h
  go_enter Try.func46, Try.ntmps46
  go_wp2_with fail
  refine (pick_c 9 sb a len cap zs k w H.out (by omega) (by omega)).mono ?_
  rintro e w1 ⟨x, k1, rfl, hx, hk1, hk1', hS1, hM1⟩
  have HS1 := hid hS1
  have HM1 := hid hM1
  have hsb := hS1.here
  obtain ⟨n, hn⟩ : ∃ n : Nat, 1 + x = n := ⟨(1 + x).toNat, by omega⟩
  have hnb : 1 ≤ n ∧ n ≤ 9 := by omega
  have hw1 : wrap64 (1 + x) = n := by rw [IntWalk.wrap64_in _ (by omega)]; exact hn
  have HL2 := hid (show GRows w1.heap.size (w1.alloc (.cells #[] 26)) (.slice (some ⟨w1.heap.size, 0, none⟩) 0 0) [] [] from
    ⟨rfl, World.ownsRow_lit (base := w1.heap.size) (e := 26) (size := 1) w1 #[] 0 (Nat.le_refl _) (by simp only [maxLen]; omega) rfl, fun j hj => by simp at hj⟩)
  have hM2 := hM1.alloc (.cells #[] 26)
  have hS2 := src_below hS1 ((Below.refl w1.heap.size w1).alloc (Nat.le_refl _) (.cells #[] 26)) hsb
  have HM2 := hid hM2
  have HS2 := hid hS2
  obtain ⟨W1, hW1⟩ : ∃ W1, w1.heap.size = W1 := ⟨_, rfl⟩
  rw [hW1] at HL2 hsb
  have HW1 := hid hW1
  have HNn := hid hn
  clear hS1 hM1 hM2 hS2 hn hW1
  go_wp2_with fail
  try rw [hw1]
  try rw [HNn.out]
  clear hw1 hx
  go_loopw [4, 5] (fun v y wr => ∃ (i : Nat) (g : List (List Int)) (us : List Value) (k2 : Int), y = .int .i64 i ∧ i ≤ n ∧ g.length = i ∧ (∀ j, j < g.length → (g.getD j []).length ≤ 20) ∧ GRows W1 wr v g us ∧ k ≤ k2 ∧ k2 ≤ k + 2 + 20 * i ∧ Src wr sb a len cap zs k2 ∧ Moved sb w wr ∧ W1 ≤ wr.heap.size) (fun _ y _ => n - (intOf y).toNat)
  case atStart => exact ⟨0, [], [], k1, rfl, by omega, rfl, fun j hj => by simp at hj, by rw [HW1.out]; exact HL2.out, hk1, by omega, HS2.out, HM2.out, by rw [World.size_alloc, HW1.out]; omega⟩
  case round =>
    obtain ⟨i, g, us, k2, rfl, hi, hgl, hls, hgr, hk2, hk2', hS, hM, hzr⟩ := hrel
    have HG := hid hgr
    have HS := hid hS
    have HM := hid hM
    have HLs := hid hls
    have hul : us.length ≤ 9 := by rw [hgr.len]; omega
    have HGl := hid hgl
    obtain ⟨sv, cv, rfl⟩ := own_slice hgr.row
    have hsr := hS.here
    clear hgr hS hM hls hgl
    by_cases hlt : i < n
    case neg =>
      obtain rfl : i = n := by omega
      have hgn := HGl.out
      go_wp2_with fail
      refine (rare_c sb a len cap zs k2 wr HS.out (by omega)).mono ?_
      rintro e w3 ⟨bb, k3, rfl, hk3, hk3', hS3, hM3⟩
      have HG3 := hid (HG.out.moved hsb hM3)
      have HM3 := hid (HM.out.trans hM3)
      have HS3 := hid hS3
      have hz3 := hM3.size
      clear hS3 hM3
      cases bb
      · go_wp2_with fail
        go_ret
        exact ⟨_, g, k3, rfl, HG3.out.at_, by omega, by omega, HLs.out, by omega, by omega, HS3.out, HM3.out, W1, us, hsb, HG3.out⟩
      · go_wp2_with fail
        refine (pick_c 40 sb a len cap zs k3 w3 HS3.out (by omega) (by omega)).mono ?_
        rintro e w4 ⟨x4, k4, rfl, hx4, hk4, hk4', hS4, hM4⟩
        have hG4 := HG3.out.moved hsb hM4
        have HM4 := hid (HM3.out.trans hM4)
        have hz4 := hM4.size
        have hs4 := hS4.here
        have hba := (Below.refl w4.heap.size w4).alloc (Nat.le_refl _) (.cells #[.int .i64 (x4 - 1)] 3)
        have HG5 := hid (hG4.on hba)
        have HS5 := hid (src_below hS4 hba hs4)
        have HM5 := hid (moved_below HM4.out hba (by have := HM.out.size; omega))
        have HL5 := hid (own_mono (base' := W1) (own_lit w4 [x4 - 1] #[.int .i64 (x4 - 1)] rfl (by simp) 1 rfl) (by omega))
        have hz5 : (w4.alloc (.cells #[.int .i64 (x4 - 1)] 3)).heap.size = w4.heap.size + 1 := by simp
        clear hS4 hM4 hG4 hba
        go_wp2_with (at_builtin; refine app_slices _ rfl _ _ rfl W1 us (.slice (some ⟨w4.heap.size, 0, none⟩) 1 1) _ rfl (HG5.out.row.alloc _) rfl _ _ _ rfl rfl (SrcAt.sl _ _ _ (by simp)) (by omega) (by simp; omega) ?_; intro v6 w6 hown6 ho6; have HW6 := hid hown6; have HOn6 := hid ho6; have hown6b := hown6; obtain ⟨s6, c6, rfl⟩ := own_slice hown6b; clear hown6 ho6 hown6b)
        go_wp2_with fail
        go_ret
        have hzz : W1 ≤ w4.heap.size := by omega
        have hal := (Below.refl (w4.alloc (.cells #[.int .i64 (x4 - 1)] 3)).heap.size (w4.alloc (.cells #[.int .i64 (x4 - 1)] 3))).alloc (Nat.le_refl _) (.cells #[.slice (some ⟨w4.heap.size, 0, none⟩) 1 1] 26)
        have hgf := gr_snoc (l := [x4 - 1]) (HG5.out.on hal) HW6.out (own_on HL5.out hal) HOn6.out
        have hbl : Below W1 (w4.alloc (.cells #[.int .i64 (x4 - 1)] 3)) w6 := (hal.mono (by omega)).trans (HOn6.out.below (by rw [World.size_alloc]; omega) (fun k hk => (HG5.out.row.lt k hk).1))
        refine ⟨_, g ++ [[x4 - 1]], k4, rfl, by simpa using hgf.at_, by simp, by simp; omega, fun j hj => ?_, by omega, by omega, src_below HS5.out hbl hsb, moved_below HM5.out hbl (by have := HM1.out.size; have := HW1.out; omega), W1, us ++ [.slice (some ⟨w4.heap.size, 0, none⟩) 1 1], hsb, by simpa using hgf⟩
        rw [List.length_append, List.length_singleton] at hj
        rw [List.getD_eq_getElem?_getD, List.getElem?_append]
        by_cases hjg : j < g.length
        · rw [if_pos hjg, ← List.getD_eq_getElem?_getD]
          exact HLs.out j hjg
        · rw [if_neg hjg, show j - g.length = 0 by omega]
          simp
    have hzw : w.heap.size ≤ wr.heap.size := HM.out.size
    have hba := (Below.refl wr.heap.size wr).alloc (Nat.le_refl _) (.cells #[] 3)
    have HG2 := hid (HG.out.on hba)
    have HSb := hid (src_below HS.out hba hsr)
    have HMb := hid (moved_below HM.out hba hzw)
    have HLi := hid (own_lit wr [] #[] rfl (by simp) 0 rfl)
    have HKr := hid (fun k hk => (HG.out.row.lt k hk).2)
    have HKl := hid (fun j hj k hk => ((HG.out.lists j hj).lt k hk).2)
    have hzb : (wr.alloc (.cells #[] 3)).heap.size = wr.heap.size + 1 := by simp
    have hgi := HGl.out
    go_wp2_with fail
    refine (pick_c 4 sb a len cap zs k2 _ HSb.out (by omega) (by omega)).mono ?_
    rintro e w3 ⟨x3, k3, rfl, hx3, hk3, hk3', hS3, hM3⟩
    have HG3 := hid (HG2.out.moved hsb hM3)
    have HS3 := hid hS3
    have HM3 := hid (HMb.out.trans hM3)
    have HL3 := hid (own_moved HLi.out hsr hM3)
    have hz3 := hM3.size
    have hm3 : ∃ m : Nat, x3 = m ∧ m ≤ 3 := ⟨x3.toNat, by omega, by omega⟩
    obtain ⟨m3, rfl, hm3⟩ := hm3
    obtain ⟨W2, hW2⟩ : ∃ W2, wr.heap.size = W2 := ⟨_, rfl⟩
    rw [hzb] at hz3
    rw [hW2] at hsr hzw HL3 HKr HKl hzb hz3 hzr ⊢
    have HW2 := hid hW2
    clear hS3 hM3 hba hx3 hW2
    go_wp2_with fail
    go_loopw [6, 7] (fun lv y wq => ∃ (m : Nat) (ys : List Int) (k4 : Int), y = .int .i64 m ∧ m ≤ m3 ∧ ys.length = m3 - m ∧ wq.ownsRow W2 3 1 lv ys.length (ints ys) ∧ GRows W1 wq (.slice sv us.length cv) g us ∧ k3 ≤ k4 ∧ k4 ≤ k3 + 6 * (m3 - m : Nat) ∧ Src wq sb a len cap zs k4 ∧ Moved sb w wq ∧ W2 ≤ wq.heap.size) (fun _ y _ => (intOf y).toNat)
    case atStart => exact ⟨m3, [], k3, rfl, Nat.le_refl _, by simp, HL3.out, HG3.out, by omega, by omega, HS3.out, HM3.out, by omega⟩
    case round =>
      obtain ⟨m, ys, k4, rfl, hm, hyl, hO, hG, hk4, hk4', hS, hM, hzq⟩ := hrel
      have HO := hid hO
      have HGX := hid hG
      have HSq := hid hS
      have HMq := hid hM
      have HYL := hid hyl
      have hyb : ys.length ≤ 3 := by omega
      have hO2 := hO
      obtain ⟨sl, cl, rfl⟩ := own_slice hO2
      clear hO hG hS hM hyl hO2
      by_cases hm0 : m = 0
      · subst hm0
        have hbq : W1 ≤ wr.heap.size := by omega
        have hzs : (wr.alloc (.cells #[.slice sl ys.length cl] 26)).heap.size = wr.heap.size + 1 := by simp
        go_wp2_with (at_builtin; refine app_slices _ rfl _ _ rfl W1 us (.slice sl ys.length cl) _ rfl (HGX.out.row.alloc _) rfl _ _ _ rfl rfl (SrcAt.sl _ _ _ (by simp)) (by omega) (by omega) ?_; intro v6 w6 hown6 ho6; have HW6 := hid hown6; have HOn6 := hid ho6; have hown6b := hown6; obtain ⟨s6, c6, rfl⟩ := own_slice hown6b; clear hown6 ho6 hown6b)
        go_wp2_with fail
        have hal := (Below.refl wr.heap.size wr).alloc (Nat.le_refl _) (.cells #[.slice sl ys.length cl] 26)
        have hgf := gr_snoc (HGX.out.on hal) HW6.out (own_mono (own_on HO.out hal) hzr) HOn6.out
        have hbl : Below W1 wr w6 := (hal.mono hbq).trans (HOn6.out.below (by omega) (fun k hk => (HGX.out.row.lt k hk).1))
        have hgl := HGl.out
        refine ⟨⟨i + 1, g ++ [ys], us ++ [.slice sl ys.length cl], k4, by simp, by omega, by simp; omega, fun j hj => ?_, by simpa using hgf, by omega, by omega, src_below HSq.out hbl hsb, moved_below HMq.out hbl (by have := HM1.out.size; have := HW1.out; omega), by have := hbl.size; omega⟩, by simp only [intOf]; omega⟩
        rw [List.length_append, List.length_singleton] at hj
        rw [List.getD_eq_getElem?_getD, List.getElem?_append]
        by_cases hjg : j < g.length
        · rw [if_pos hjg, ← List.getD_eq_getElem?_getD]
          exact HLs.out j hjg
        · rw [if_neg hjg, show j - g.length = 0 by omega]
          simp
          omega
      obtain ⟨m, rfl⟩ : ∃ m', m = m' + 1 := ⟨m - 1, by omega⟩
      go_wp2_with fail
      refine (pick_c 2 sb a len cap zs k4 wr HSq.out (by omega) (by omega)).mono ?_
      rintro e w5 ⟨x5, k5, rfl, hx5, hk5, hk5', hS5, hM5⟩
      have hz5 := hM5.size
      have HG5 := hid (HGX.out.moved (by omega) hM5)
      have HO5 := hid (own_moved HO.out hsr hM5)
      have HS5 := hid hS5
      have HM5 := hid (HMq.out.trans hM5)
      clear hS5 hM5
      by_cases hge : (n : Int) ≤ i + 1 + x5
      · go_wp2_with fail
        refine (pick_c n sb a len cap zs k5 w5 HS5.out (by omega) (by omega)).mono ?_
        rintro e w7 ⟨x7, k7, rfl, hx7, hk7, hk7', hS7, hM7⟩
        have hz7 := hM7.size
        have HG7 := hid (HG5.out.moved (by omega) hM7)
        have HO7 := hid (own_moved HO5.out hsr hM7)
        have HS7 := hid hS7
        have HM7 := hid (HM5.out.trans hM7)
        clear hS7 hM7
        have hbz : W2 ≤ w7.heap.size := by omega
        have hzq : (w7.alloc (.cells #[.int .i64 (x7)] 3)).heap.size = w7.heap.size + 1 := by simp
        go_wp2_with (at_builtin; refine app_ints _ rfl _ _ rfl W2 ys [x7] _ rfl (HO7.out.alloc _) _ _ _ rfl rfl (SrcAt.at_ _ [x7] #[.int .i64 (x7)] _ 1 rfl (by simp) rfl) (by rw [HYL.out]; simp; omega) (by omega) ?_; intro v8 w8 hg8; have HS8 := hid (snocS HG7.out HKr.out HKl.out HS7.out HM7.out hsr hzw hbz _ hg8); have HO8 := hid hg8.own; have hr8 := hg8.own; obtain ⟨s8, c8, rfl⟩ := own_slice hr8; clear hg8 hr8)
        go_wp2_with fail
        obtain ⟨q1, q2, q3, q4⟩ := HS8.out
        exact ⟨⟨m, ys ++ [x7], k7, by simp, by omega, by rw [List.length_append, HYL.out]; simp; omega, by simpa using HO8.out, q1, by omega, by omega, q2, q3, q4⟩, by simp only [intOf]; omega⟩
      · go_wp2_with fail
        refine (pick_c 3 sb a len cap zs k5 w5 HS5.out (by omega) (by omega)).mono ?_
        rintro e w6 ⟨x6, k6, rfl, hx6, hk6, hk6', hS6, hM6⟩
        have hz6 := hM6.size
        have HG6 := hid (HG5.out.moved (by omega) hM6)
        have HO6 := hid (own_moved HO5.out hsr hM6)
        have HS6 := hid hS6
        have HM6 := hid (HM5.out.trans hM6)
        clear hS6 hM6
        by_cases h60 : x6 = 0
        · go_wp2_with fail
          refine (pick_c n sb a len cap zs k6 w6 HS6.out (by omega) (by omega)).mono ?_
          rintro e w7 ⟨x7, k7, rfl, hx7, hk7, hk7', hS7, hM7⟩
          have hz7 := hM7.size
          have HG7 := hid (HG6.out.moved (by omega) hM7)
          have HO7 := hid (own_moved HO6.out hsr hM7)
          have HS7 := hid hS7
          have HM7 := hid (HM6.out.trans hM7)
          clear hS7 hM7
          have hbz : W2 ≤ w7.heap.size := by omega
          have hzq : (w7.alloc (.cells #[.int .i64 (x7)] 3)).heap.size = w7.heap.size + 1 := by simp
          go_wp2_with (at_builtin; refine app_ints _ rfl _ _ rfl W2 ys [x7] _ rfl (HO7.out.alloc _) _ _ _ rfl rfl (SrcAt.at_ _ [x7] #[.int .i64 (x7)] _ 1 rfl (by simp) rfl) (by rw [HYL.out]; simp; omega) (by omega) ?_; intro v8 w8 hg8; have HS8 := hid (snocS HG7.out HKr.out HKl.out HS7.out HM7.out hsr hzw hbz _ hg8); have HO8 := hid hg8.own; have hr8 := hg8.own; obtain ⟨s8, c8, rfl⟩ := own_slice hr8; clear hg8 hr8)
          go_wp2_with fail
          obtain ⟨q1, q2, q3, q4⟩ := HS8.out
          exact ⟨⟨m, ys ++ [x7], k7, by simp, by omega, by rw [List.length_append, HYL.out]; simp; omega, by simpa using HO8.out, q1, by omega, by omega, q2, q3, q4⟩, by simp only [intOf]; omega⟩
        · have hwz : wrap64 (i + 1 + x5) = i + 1 + x5 := IntWalk.wrap64_in _ (by omega)
          have hxb : (x6 == 0) = false := by simpa using h60
          have hgd : decide ((n : Int) ≤ i + 1 + x5) = false := by simpa using hge
          have hbz : W2 ≤ w6.heap.size := by omega
          have hzq : (w6.alloc (.cells #[.int .i64 (i + 1 + x5)] 3)).heap.size = w6.heap.size + 1 := by simp
          go_wp2_with (at_builtin; refine app_ints _ rfl _ _ rfl W2 ys [i + 1 + x5] _ rfl (HO6.out.alloc _) _ _ _ rfl rfl (SrcAt.at_ _ [i + 1 + x5] #[.int .i64 (i + 1 + x5)] _ 1 rfl (by simp) rfl) (by rw [HYL.out]; simp; omega) (by omega) ?_; intro v8 w8 hg8; have HS8 := hid (snocS HG6.out HKr.out HKl.out HS6.out HM6.out hsr hzw hbz _ hg8); have HO8 := hid hg8.own; have hr8 := hg8.own; obtain ⟨s8, c8, rfl⟩ := own_slice hr8; clear hg8 hr8)
          go_wp2_with fail
          obtain ⟨q1, q2, q3, q4⟩ := HS8.out
          exact ⟨⟨m, ys ++ [i + 1 + x5], k6, by simp, by omega, by rw [List.length_append, HYL.out]; simp; omega, by simpa using HO8.out, q1, by omega, by omega, q2, q3, q4⟩, by simp only [intOf]; omega⟩
end Go.Proofs.Ytbbhbjdpdhbjlaa.Ge
