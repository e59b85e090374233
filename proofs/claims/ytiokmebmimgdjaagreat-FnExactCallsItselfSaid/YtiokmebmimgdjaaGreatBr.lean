/- body, funsWith of the program, isFun of the model; BodyOf and CalledIn of both. -/
import Derived.Test.YtiokmebmimgdjaaGreatBo
import Derived.Test.YtiokmebmimgdjaaGreatFu
set_option linter.unusedSimpArgs false
set_option linter.unusedVariables false
namespace Go.Proofs.YtiokmebmimgdjaaGreat.Wk
open Go.RowKit Pl Ft Mm In C2 Im Sw

theorem bodyL_len {code : List Int} {ms : List Nat} (hnd : ms.Nodup) (hb : ∀ q ∈ ms, q ≤ 100000) : (bodyL code ms).length ≤ 100001 := by
  unfold bodyL
  rw [List.length_map]
  exact rc_nodup_le 100001 _ (hnd.filter _) (fun q hq => by have := hb q (mem_insOf.1 hq).1; omega)
theorem body_leads (code : List Int) (ac : Option Addr) (cc : Nat) (lb : Value) (gw gm gp gl : Nat) (ms0 : List Nat) (S : List Int) (w00 wS : World)
    (hr : Rd w00 (.slice ac code.length cc) code) (hcap : code.length ≤ cc) (hb00 : Below w00.heap.size w00 wS) (hgl0 : w00.heap.size ≤ gl) (hgl : gl < wS.heap.size) (hby : code.all isByte = true) (hlen : code.length ≤ 2000)
    (hw : Row wS gw 84 #[.slice ac code.length cc, .map (some gm), lb]) (hm : MapAt wS gm code ms0) (hp : Row wS gp 47 #[.pointer (some ⟨gw, 0, none⟩)]) (h1 : gw ≠ gl) (h2 : gm ≠ gl) (h3 : gp ≠ gl)
    (hms0 : ∀ p, Rc (Gm code false) S p → (p ∈ ms0 ↔ (readP code p).isSome = true)) :
    LeadsF (Gm code false) S 100000 77 (fun p => #[.int .i64 p, .pointer (some ⟨gp, 0, none⟩), .pointer (some ⟨gl, 0, none⟩)]) (fun ms T w => BdSt code gl wS ms T w ∧ ms.Nodup ∧ ∀ q ∈ ms, q ≤ 100000) where
  call ms T p w hI hpN hn hrc := by
    have hnd : (ms ++ [p]).Nodup := by
      rw [List.nodup_append]
      exact ⟨hI.2.1, by simp, fun a ha b hb => by
        obtain rfl : b = p := by simpa using hb
        exact fun e => hn (e ▸ ha)⟩
    have hbd : ∀ q ∈ ms ++ [p], q ≤ 100000 := fun q hq => by
      rcases List.mem_append.1 hq with h | h
      · exact hI.2.2 q h
      · obtain rfl : q = p := by simpa using h
        exact hpN
    refine (bodyFn_c code ac cc lb gw gm gp gl ms0 w00 wS ms T p w hr hcap hb00 hgl0 hgl hby hlen hw hm hp h1 h2 h3 (hms0 p hrc) hpN hI.1 (bodyL_len hnd hbd)).mono ?_
    rintro e w' ⟨v, T', rfl, ho, hs, hT, hon⟩
    exact ⟨v, T', rfl, ho, ⟨hs, hnd, hbd⟩, hT, hon⟩
  enter xs w := by kernel_rfl
  on ms T w w' z hI hz ho := ⟨hI.1.on hgl hz ho, hI.2⟩
  lt ms T w hI k hk := hI.1.lt k hk
set_option maxRecDepth 100000 in
set_option maxHeartbeats 4000000 in
theorem body_c (code : List Int) (ac : Option Addr) (cc : Nat) (lb : Value) (gw gm at_ : Nat) (ms0 : List Nat) (w : World) (hr : Rd w (.slice ac code.length cc) code) (hcap : code.length ≤ cc) (hby : code.all isByte = true) (hlen : code.length ≤ 2000) (hat : at_ ≤ 2000)
    (hw : Row w gw 84 #[.slice ac code.length cc, .map (some gm), lb]) (hm : MapAt w gm code ms0) (hms0 : ∀ p, Rc (Gm code false) [(at_ : Int)] p → (p ∈ ms0 ↔ (readP code p).isSome = true)) :
    Calls Tryz.prog 45 #[.pointer (some ⟨gw, 0, none⟩), .int .i64 at_] w (WaysPost2 (reachL code [(at_ : Int)] false) w) := by
  have HRd := hid hr
  have HBy := hid hby
  have HW := hid hw
  have HM := hid hm
  have HMs := hid hms0
  have hgw := hw.lt
  have hgm := hm.lt
  obtain ⟨w1, hw1, hr1, hb1, hz1⟩ := new_ex w 47 #[.pointer (some ⟨gw, 0, none⟩)]
  obtain ⟨w2, hw2, hr2, hb2, hz2⟩ := new_ex w1 22 #[.slice none 0 0]
  obtain ⟨w3, hw3, _, hb3, hz3⟩ := new_ex w2 3 #[.int .i64 at_]
  have HL3 := hid (show w3.ownsRow w2.heap.size 3 1 (.slice (some ⟨w2.heap.size, 0, none⟩) 1 1) 1 (ints [(at_ : Int)]) by rw [← hw3]; exact own_lit w2 [(at_ : Int)] #[.int .i64 at_] rfl (by simp) 1 rfl)
  have hb13 := hb2.trans (hb3.mono (Nat.le_of_lt hz2))
  have hb03 := hb1.trans (hb13.mono (Nat.le_of_lt hz1))
  have HB3 := hid hb03
  have HP3 := hid (hr1.on hb13)
  have HR3 := hid (hr2.on hb3)
  have HW3 := hid (hw.on hb03)
  have HM3 := hid (hm.on hb03)
  clear hr hby hw hm hms0 hr1 hr2 hb1 hb2 hb3 hb13 hb03
  go_enter Tryz.func45, Tryz.ntmps45
  go_wp2_with fail
  clear hw1 hw2 hw3
  have HG := hid (show w.heap.size < w3.heap.size ∧ w1.heap.size < w3.heap.size ∧ w.heap.size < w1.heap.size by omega)
  refine (reached_f (gm_bd HBy.out hlen false (S := [(at_ : Int)]) (fun q hq => by obtain rfl : q = (at_ : Int) := (by simpa using hq); omega)) (by simp) (by simp) (by omega) w2.heap.size _ _ (body_leads code ac cc lb gw gm w.heap.size w1.heap.size ms0 [(at_ : Int)] w w3 HRd.out hcap HB3.out (by omega) (by omega) HBy.out hlen HW3.out HM3.out HP3.out (by omega) (by omega) (by omega) HMs.out) HL3.out ⟨⟨⟨_, rfl, HR3.out, World.ownsRow_nil _ _ _ _⟩, .refl _ _, by simp [bodyL, insOf]⟩, List.nodup_nil, fun q hq => by cases hq⟩).mono ?_
  rintro e w4 ⟨gs, ms, T, rfl, _, hmem, hnd, ⟨hst, _, _⟩, _, _⟩
  obtain ⟨lv, rfl, hrow, hown⟩ := hst.ex
  have HOn := hid hst.only
  have hsl := hst.len
  have hso : sortI (bodyL code ms) = reachL code [(at_ : Int)] false := by
    rw [← trues_reach hmem]
    exact sorted_trues (.refl _) (hnd.filter _) insOf_lt
  obtain ⟨bl, hbl⟩ : ∃ l, bodyL code ms = l := ⟨_, rfl⟩
  rw [hbl] at hown hsl hso
  have HSo := hid hso
  have HO4 := hid hown
  have HR4 := hid hrow
  have l0 := hrow.cell 0
  obtain ⟨ls, lc, rfl⟩ := own_slice hown
  simp at l0
  clear hst hmem hnd hrow hown hso hbl
  go_wp2_with fail
  refine (sort_c w3.heap.size bl _ w4 HO4.out (by omega)).mono ?_
  rintro e w5 ⟨rfl, hown5, ho5⟩
  have hfar := fun k (hk : (Value.slice ls bl.length lc).ownBlock = some k) => (HO4.out.lt k hk).1
  have HR5 := hid (row_only HR4.out (fun h => by have := hfar _ h; omega) ho5)
  have HOn5 := hid (only_mix HOn.out ho5 (fun k hk => .inr (hfar k hk)))
  have l1 := HR5.out.cell 0
  simp at l1
  rw [HSo.out] at hown5
  obtain ⟨rl, hrl⟩ : ∃ l, reachL code [(at_ : Int)] false = l := ⟨_, rfl⟩
  rw [hrl] at hown5
  have hll : rl.length = bl.length := by rw [← hrl, ← HSo.out]; exact sortI_len bl
  have HRl := hid hrl
  have HLl := hid hll
  have HO5 := hid hown5
  clear l0 ho5 hown5 hrl hll hfar
  go_wp2_with fail
  go_ret
  rw [HRl.out]
  exact ⟨_, rfl, own_mono HO5.out (by omega), HB3.out.trans (HOn5.out.below HB3.out.size (fun k hk => by rw [hk]; omega))⟩
end Go.Proofs.YtiokmebmimgdjaaGreat.Wk
namespace Go.Proofs.YtiokmebmimgdjaaGreat.Wk
open Go.RowKit Pl Ft Mm In C2 Im Sw

def IdxPost2 (l : List Int) (x : Int) (w : World) (e : Ending) (w' : World) : Prop := ∃ r : Int, e = .returned (.int .i64 r) ∧ ((x ∈ l ∧ 0 ≤ r ∧ r ≤ 1000000) ∨ (x ∉ l ∧ r = -1)) ∧ w' = w
set_option maxHeartbeats 1000000 in
theorem idx_c (l : List Int) (v : Value) (x : Int) (w : World) (hr : Rd w v l) (hl : l.length ≤ 1000000) : Calls Tryz.prog 100 #[v, .int .i64 x] w (IdxPost2 l x w) := by
  obtain ⟨a, cap, rfl, ha⟩ := hr
  have HA := hid ha
  clear ha
  go_enter Tryz.func100, Tryz.ntmps100
  go_wp2_with fail
  go_loopw [8] (fun c wr => ∃ k : Nat, c = .int .i64 k ∧ k ≤ l.length ∧ (∀ y ∈ l.take k, y ≠ x) ∧ wr = w) (fun c _ => l.length - (intOf c).toNat)
  case atStart => exact ⟨0, rfl, by omega, by simp, rfl⟩
  case round =>
    obtain ⟨k, rfl, hk, hno, rfl⟩ := hrel
    have HNo := hid hno
    clear hno
    by_cases hlt : k < l.length
    · rcases HA.out with h | ⟨g, o, rfl, hg, hcs⟩
      · subst h; simp at hlt
      have q0 := hcs k hlt
      have hgd : l.getD k 0 = l[k] := by simp [hlt]
      rw [hgd] at q0
      have HMem := hid (List.getElem_mem hlt)
      have HTk := hid (List.take_succ_eq_append_getElem hlt)
      obtain ⟨y, hy⟩ : ∃ y, l[k] = y := ⟨_, rfl⟩
      rw [hy] at q0 HMem HTk
      clear hcs hgd hy
      by_cases he : x = y
      · subst he
        go_wp2_with fail
        go_ret
        exact ⟨_, rfl, .inl ⟨HMem.out, by omega, by omega⟩, rfl⟩
      · have hne : (x == y) = false := by rw [beq_eq_false_iff_ne]; exact he
        have HE := hid he
        clear he
        go_wp2_with fail
        go_roundw
        case rel => exact ⟨k + 1, by go_num, by omega, fun z hz => by
          rw [HTk.out] at hz
          rcases List.mem_append.1 hz with h | h
          · exact HNo.out z h
          · obtain rfl : z = y := by simpa using h
            exact fun h => HE.out h.symm, by first | rfl | trivial⟩
        case measure => simp [intOf]; omega
    · obtain rfl : k = l.length := by omega
      go_wp2_with fail
      go_ret
      refine ⟨_, rfl, .inr ⟨fun h => ?_, rfl⟩, rfl⟩
      have h2 := HNo.out
      rw [List.take_length] at h2
      exact h2 x h rfl
theorem contains_c (l : List Int) (v : Value) (x : Int) (w : World) (hr : Rd w v l) (hl : l.length ≤ 1000000) : Calls Tryz.prog 76 #[v, .int .i64 x] w fun e w' => e = .returned (.bool (decide (x ∈ l))) ∧ w' = w := by
  have HR := hid hr
  obtain ⟨a, cap, rfl, _⟩ := hr
  go_enter Tryz.func76, Tryz.ntmps76
  go_wp2_with fail
  refine (idx_c l _ x w HR.out hl).mono ?_
  rintro e w1 ⟨r, rfl, h, rfl⟩
  rcases h with ⟨h1, h2, h3⟩ | ⟨h1, rfl⟩
  · have HD := hid (decide_eq_true h1)
    clear h1
    go_wp2_with fail
    go_ret
    rw [HD.out]
    exact ⟨rfl, rfl⟩
  · have HD := hid (decide_eq_false h1)
    clear h1
    go_wp2_with fail
    go_ret
    rw [HD.out]
    exact ⟨rfl, rfl⟩
set_option maxHeartbeats 1000000 in
theorem placeOf_c (l : List Int) (v : Value) (x : Int) (w : World) (hr : Rd w v l) (hl : l.length ≤ 1000000) : Calls Tryz.prog 80 #[v, .int .i64 x] w (IdxPost2 l x w) := by
  obtain ⟨a, cap, rfl, ha⟩ := hr
  have HA := hid ha
  clear ha
  go_enter Tryz.func80, Tryz.ntmps80
  go_wp2_with fail
  go_loopw [5] (fun c wr => ∃ k : Nat, c = .int .i64 k ∧ k ≤ l.length ∧ (∀ y ∈ l.take k, y ≠ x) ∧ wr = w) (fun c _ => l.length - (intOf c).toNat)
  case atStart => exact ⟨0, rfl, by omega, by simp, rfl⟩
  case round =>
    obtain ⟨k, rfl, hk, hno, rfl⟩ := hrel
    have HNo := hid hno
    clear hno
    by_cases hlt : k < l.length
    · rcases HA.out with h | ⟨g, o, rfl, hg, hcs⟩
      · subst h; simp at hlt
      have q0 := hcs k hlt
      have hgd : l.getD k 0 = l[k] := by simp [hlt]
      rw [hgd] at q0
      have HMem := hid (List.getElem_mem hlt)
      have HTk := hid (List.take_succ_eq_append_getElem hlt)
      obtain ⟨y, hy⟩ : ∃ y, l[k] = y := ⟨_, rfl⟩
      rw [hy] at q0 HMem HTk
      clear hcs hgd hy
      by_cases he : y = x
      · subst he
        go_wp2_with fail
        go_ret
        exact ⟨_, rfl, .inl ⟨HMem.out, by omega, by omega⟩, rfl⟩
      · have hne : (y == x) = false := by rw [beq_eq_false_iff_ne]; exact he
        have HE := hid he
        clear he
        go_wp2_with fail
        go_roundw
        case rel => exact ⟨k + 1, by go_num, by omega, fun z hz => by
          rw [HTk.out] at hz
          rcases List.mem_append.1 hz with h | h
          · exact HNo.out z h
          · obtain rfl : z = y := by simpa using h
            exact HE.out, by first | rfl | trivial⟩
        case measure => simp [intOf]; omega
    · obtain rfl : k = l.length := by omega
      go_wp2_with fail
      go_ret
      refine ⟨_, rfl, .inr ⟨fun h => ?_, rfl⟩, rfl⟩
      have h2 := HNo.out
      rw [List.take_length] at h2
      exact h2 x h rfl
theorem inList_c (l : List Int) (v : Value) (x : Int) (w : World) (hr : Rd w v l) (hl : l.length ≤ 1000000) : Calls Tryz.prog 48 #[v, .int .i64 x] w fun e w' => e = .returned (.bool (decide (x ∈ l))) ∧ w' = w := by
  have HR := hid hr
  obtain ⟨a, cap, rfl, _⟩ := hr
  go_enter Tryz.func48, Tryz.ntmps48
  go_wp2_with fail
  refine (placeOf_c l _ x w HR.out hl).mono ?_
  rintro e w1 ⟨r, rfl, h, rfl⟩
  rcases h with ⟨h1, h2, h3⟩ | ⟨h1, rfl⟩
  · have HD := hid (decide_eq_true h1)
    clear h1
    go_wp2_with fail
    go_ret
    rw [HD.out]
    exact ⟨rfl, rfl⟩
  · have HD := hid (decide_eq_false h1)
    clear h1
    go_wp2_with fail
    go_ret
    rw [HD.out]
    exact ⟨rfl, rfl⟩
/-- A function is reached. -/
theorem funs_rc {m : Img} {x : Int} (hok : imageOk m = true) (h : x ∈ funsL m) : ∃ p : Nat, x = p ∧ p < m.code.length ∧ Rc (Gm m.code true) [m.entry] p := by
  have hb := imageOk_bd hok
  have he0 := hb.e0
  have he1 := hb.e1
  unfold funsL at h
  rcases List.mem_cons.1 h with rfl | h
  · exact ⟨m.entry.toNat, by omega, by omega, .start _ (by rw [show ((m.entry.toNat : Nat) : Int) = m.entry by omega]; simp)⟩
  · unfold othersL at h
    have h1 := (List.mem_filter.1 h).1
    unfold calledL at h1
    obtain ⟨q, hq, rfl⟩ := List.mem_map.1 h1
    have h2 := of_decide_eq_true (List.mem_filter.1 hq).2
    obtain ⟨y, hy, hc⟩ := List.mem_filterMap.1 h2
    obtain ⟨p, rfl, _, hrc, _⟩ := reachL_mem hy
    unfold callAt at hc
    rw [Int.toNat_natCast] at hc
    refine ⟨q, rfl, List.mem_range.1 (List.mem_filter.1 hq).1, .step p q hrc ?_⟩
    unfold Gm
    cases hr : readP m.code p with
    | none => rw [hr] at hc; cases hc
    | some i =>
      rw [hr] at hc
      simp only at hc ⊢
      split at hc
      · rename_i hcc
        have := Option.some.inj hc
        rw [if_pos (by first | exact ⟨rfl, hcc.1⟩ | exact ⟨trivial, hcc.1⟩ | exact hcc.1), List.mem_append]
        exact .inr (by simp [this])
      · cases hc
theorem rc_sub {code : List Int} {S : List Int} {p q : Nat} (hp : Rc (Gm code true) S p) (h : Rc (Gm code false) [(p : Int)] q) : Rc (Gm code true) S q := by
  induction h with
  | start r hr =>
    obtain rfl : r = p := by have := List.mem_singleton.1 hr; omega
    exact hp
  | step a b _ hb ih =>
    refine .step a b ih ?_
    unfold Gm at hb ⊢
    cases hr : readP code a with
    | none => rw [hr] at hb; cases hb
    | some i =>
      rw [hr] at hb
      simp only at hb ⊢
      rw [List.mem_append] at hb ⊢
      rcases hb with h | h
      · exact .inl h
      · simp at h
end Go.Proofs.YtiokmebmimgdjaaGreat.Wk
namespace Go.Proofs.YtiokmebmimgdjaaGreat.Wk
open Go.RowKit Pl Ft Mm In C2 Im Sw

noncomputable def isFunP (m : Img) (x : Int) : Bool := imageOk m && decide (x ∈ funsL m)
def FwNo (w : World) (e : Ending) (w' : World) : Prop := e = .returned (.tuple #[.agg #[.pointer none, .slice none 0 0], .bool false]) ∧ Below w.heap.size w w'
set_option maxRecDepth 100000 in
set_option maxHeartbeats 4000000 in
theorem funsWith_no (m : Img) (vc vd vn : Value) (x : Int) (w : World) (h : ICells w vc vd vn m) (hs : Sm m) (hcc : ∀ a n c, vc = .slice a n c → n ≤ c) (hf : isFunP m x = false) :
    Calls Tryz.prog 44 #[imgVal vc vd vn m, .int .i64 x] w (FwNo w) := by
  obtain ⟨ac, cc, rfl⟩ := rd_slice h.c
  obtain ⟨ad, cd, rfl⟩ := rd_slice h.d
  obtain ⟨an, cn, rfl⟩ := nrd_slice h.n
  have HI := hid h
  have HS := hid hs
  have HCap := hid hcc
  have HF := hid hf
  clear h hs hcc hf
  have hV : imgVal (.slice ac m.code.length cc) (.slice ad m.data.length cd) (.slice an m.names.length cn) m = .agg #[.slice ac m.code.length cc, .int .i64 m.entry, .int .i64 m.room, .slice ad m.data.length cd, .slice an m.names.length cn] := rfl
  have HV := hid hV
  rw [hV]
  clear hV
  obtain ⟨w0, hw0, hr0, hb0, hz0⟩ := new_ex w 30 #[.slice ac m.code.length cc, .int .i64 m.entry, .int .i64 m.room, .slice ad m.data.length cd, .slice an m.names.length cn]
  obtain ⟨w1, hw1, hr1, hb1, hz1⟩ := new_ex w0 61 #[.pointer none, .slice none 0 0]
  have HB1 := hid (hb0.trans (hb1.mono (Nat.le_of_lt hz0)))
  have HX1 := hid (hr0.on hb1)
  have HR1 := hid hr1
  have x0 := HX1.out.cell 0
  have x1 := HX1.out.cell 1
  have x2 := HX1.out.cell 2
  have x3 := HX1.out.cell 3
  have x4 := HX1.out.cell 4
  simp at x0 x1 x2 x3 x4
  clear hr0 hb0 hr1 hb1
  go_enter Tryz.func44, Tryz.ntmps44
  go_wp2_with fail
  clear hw0 hw1 x0 x1 x2 x3 x4
  obtain ⟨g1, hg1⟩ : ∃ g, w0.heap.size = g := ⟨_, rfl⟩
  have HG := hid (show w.heap.size < g1 ∧ g1 < w1.heap.size by omega)
  rw [hg1] at HR1
  try rw [hg1]
  clear hg1 hz0 hz1
  rw [← HV.out]
  cases h1 : imageOk m
  · refine (funsIn_no m _ _ _ w1 (HI.out.on HB1.out) HS.out h1).mono ?_
    rintro e w2 ⟨rfl, hb2⟩
    clear h1
    have HB3 := hid (HB1.out.trans (hb2.mono HB1.out.size))
    have HR3 := hid (HR1.out.on hb2)
    have hlt2 := HR3.out.lt
    have z0 := HR3.out.cell 0
    have z1 := HR3.out.cell 1
    have hf := HR3.out.free
    simp at z0 z1
    clear hb2
    go_wp2_with fail
    clear z0 z1 hf
    refine bodyPost_ret (v := .tuple #[.agg #[.pointer none, .slice none 0 0], .bool false]) ?_ rfl ?_
    · first
        | exact res_cell_tmp Tryz.results44 _ _ g1 #[.pointer none, .slice none 0 0] _ rfl (((HR3.out.set 0 (.pointer none)).set 1 (.slice none 0 0)).alloc (.cells #[.pointer none, .slice none 0 0] 61)) Tryz.underlying61 size_funs
        | exact res_cell_tmp Tryz.results44 _ _ g1 #[.pointer none, .slice none 0 0] _ rfl (((HR3.out.alloc (.cells #[.pointer none, .slice none 0 0] 61)).set 0 (.pointer none)).set 1 (.slice none 0 0)) Tryz.underlying61 size_funs
    have hg := HG.out
    first
      | exact ⟨rfl, ((HB3.out.setCell (p := ⟨g1, 0, none⟩) (by simp only; omega) _).setCell (p := ⟨g1, 1, none⟩) (by simp only; omega) _).alloc (by simp [World.setCell]; exact HB3.out.size) _⟩
      | exact ⟨rfl, ((HB3.out.alloc HB3.out.size _).setCell (p := ⟨g1, 0, none⟩) (by simp only; omega) _).setCell (p := ⟨g1, 1, none⟩) (by simp only; omega) _⟩
  · have hx : x ∉ funsL m := fun hm => by have h := HF.out; unfold isFunP at h; rw [h1, decide_eq_true hm] at h; cases h
    have HX := hid hx
    have hfl := funsL_len m
    have hl2 := (imageOk_bd h1).c1
    refine (funsIn_yes m _ _ _ w1 (HI.out.on HB1.out) HS.out HCap.out h1).mono ?_
    rintro e w2 ⟨gw, gm, ms, vl, rfl, _, _, _, _, hown, hb2, _, _⟩
    obtain ⟨fl, hfs⟩ : ∃ l, funsL m = l := ⟨_, rfl⟩
    rw [hfs] at hown hfl
    have HFl := hid hfs
    obtain ⟨sl, cl, rfl⟩ := own_slice hown
    clear h1 hx hfs
    obtain ⟨w3, hw3, hr3, hb3, _⟩ := new_ex w2 61 #[.pointer (some ⟨gw, 0, none⟩), .slice sl fl.length cl]
    have HO3 := hid (own_on hown hb3)
    have HB3 := hid (HB1.out.trans ((hb2.trans (hb3.mono hb2.size)).mono HB1.out.size))
    have HR3 := hid (HR1.out.on (hb2.trans (hb3.mono hb2.size)))
    have y0 := hr3.cell 0
    have y1 := hr3.cell 1
    simp at y0 y1
    clear hb2 hb3 hown hr3
    go_wp2_with fail
    refine (contains_c fl _ x w3 (.of_own HO3.out) (by omega)).mono ?_
    rintro e w4 ⟨rfl, rfl⟩
    rw [decide_eq_false (by rw [← HFl.out]; exact HX.out)]
    have z0 := HR3.out.cell 0
    have z1 := HR3.out.cell 1
    have hf := HR3.out.free
    simp at z0 z1
    clear hw3
    go_wp2_with fail
    clear z0 z1 hf
    refine bodyPost_ret (v := .tuple #[.agg #[.pointer none, .slice none 0 0], .bool false]) ?_ rfl ?_
    · exact res_cell_tmp Tryz.results44 _ _ g1 #[.pointer none, .slice none 0 0] _ rfl ((HR3.out.set 0 (.pointer none)).set 1 (.slice none 0 0)) Tryz.underlying61 size_funs
    exact ⟨rfl, (HB3.out.setCell (p := ⟨g1, 0, none⟩) (by have := HG.out; simp only; omega) _).setCell (p := ⟨g1, 1, none⟩) (by have := HG.out; simp only; omega) _⟩
def FwYes (m : Img) (vc : Value) (w : World) (e : Ending) (w' : World) : Prop :=
  ∃ (gw gm : Nat) (ms : List Nat) (vl : Value), e = .returned (.tuple #[.agg #[.pointer (some ⟨gw, 0, none⟩), vl], .bool true]) ∧ Row w' gw 84 #[vc, .map (some gm), .bool (lostIn m.code ms)] ∧ MapAt w' gm m.code (insOf m.code ms) ∧ (∀ p, p ∈ ms ↔ Rc (Gw m.code) [m.entry] p) ∧ (∃ s c, vl = .slice s (funsL m).length c) ∧ Below w.heap.size w w'
set_option maxRecDepth 100000 in
set_option maxHeartbeats 4000000 in
theorem funsWith_yes (m : Img) (vc vd vn : Value) (x : Int) (w : World) (h : ICells w vc vd vn m) (hs : Sm m) (hcc : ∀ a n c, vc = .slice a n c → n ≤ c) (h1 : imageOk m = true) (hx : x ∈ funsL m) :
    Calls Tryz.prog 44 #[imgVal vc vd vn m, .int .i64 x] w (FwYes m vc w) := by
  obtain ⟨ac, cc, rfl⟩ := rd_slice h.c
  obtain ⟨ad, cd, rfl⟩ := rd_slice h.d
  obtain ⟨an, cn, rfl⟩ := nrd_slice h.n
  have HI := hid h
  have HS := hid hs
  have HCap := hid hcc
  have H1 := hid h1
  have HX := hid hx
  have hfl := funsL_len m
  have hl2 := (imageOk_bd h1).c1
  clear h hs hcc h1 hx
  have hV : imgVal (.slice ac m.code.length cc) (.slice ad m.data.length cd) (.slice an m.names.length cn) m = .agg #[.slice ac m.code.length cc, .int .i64 m.entry, .int .i64 m.room, .slice ad m.data.length cd, .slice an m.names.length cn] := rfl
  have HV := hid hV
  rw [hV]
  clear hV
  obtain ⟨w0, hw0, hr0, hb0, hz0⟩ := new_ex w 30 #[.slice ac m.code.length cc, .int .i64 m.entry, .int .i64 m.room, .slice ad m.data.length cd, .slice an m.names.length cn]
  obtain ⟨w1, hw1, hr1, hb1, hz1⟩ := new_ex w0 61 #[.pointer none, .slice none 0 0]
  have HB1 := hid (hb0.trans (hb1.mono (Nat.le_of_lt hz0)))
  have HX1 := hid (hr0.on hb1)
  have HR1 := hid hr1
  have x0 := HX1.out.cell 0
  have x1 := HX1.out.cell 1
  have x2 := HX1.out.cell 2
  have x3 := HX1.out.cell 3
  have x4 := HX1.out.cell 4
  simp at x0 x1 x2 x3 x4
  clear hr0 hb0 hr1 hb1
  go_enter Tryz.func44, Tryz.ntmps44
  go_wp2_with fail
  clear hw0 hw1 x0 x1 x2 x3 x4
  obtain ⟨g1, hg1⟩ : ∃ g, w0.heap.size = g := ⟨_, rfl⟩
  have HG := hid (show w.heap.size < g1 ∧ g1 < w1.heap.size by omega)
  rw [hg1] at HR1
  try rw [hg1]
  clear hg1 hz0 hz1
  rw [← HV.out]
  refine (funsIn_yes m _ _ _ w1 (HI.out.on HB1.out) HS.out HCap.out H1.out).mono ?_
  rintro e w2 ⟨gw, gm, ms, vl, rfl, hrow, hmap, hmem, hnd, hown, hb2, _, _⟩
  obtain ⟨fl, hfs⟩ : ∃ l, funsL m = l := ⟨_, rfl⟩
  rw [hfs] at hown hfl
  have HFl := hid hfs
  obtain ⟨sl, cl, rfl⟩ := own_slice hown
  obtain ⟨w3, hw3, hr3, hb3, _⟩ := new_ex w2 61 #[.pointer (some ⟨gw, 0, none⟩), .slice sl fl.length cl]
  have HO3 := hid (own_on hown hb3)
  have HB3 := hid (HB1.out.trans ((hb2.trans (hb3.mono hb2.size)).mono HB1.out.size))
  have HR3 := hid (HR1.out.on (hb2.trans (hb3.mono hb2.size)))
  have HRow := hid (hrow.on hb3)
  have HMap := hid (hmap.on hb3)
  have HMem := hid hmem
  have y0 := hr3.cell 0
  have y1 := hr3.cell 1
  simp at y0 y1
  clear hb2 hb3 hown hr3 hrow hmap hmem hnd hfs
  go_wp2_with fail
  refine (contains_c fl _ x w3 (.of_own HO3.out) (by omega)).mono ?_
  rintro e w4 ⟨rfl, rfl⟩
  rw [decide_eq_true (by rw [← HFl.out]; exact HX.out)]
  have z0 := HR3.out.cell 0
  have z1 := HR3.out.cell 1
  have hf := HR3.out.free
  simp at z0 z1
  clear hw3
  go_wp2_with fail
  clear z0 z1 hf y0 y1
  refine bodyPost_ret (v := .tuple #[.agg #[.pointer (some ⟨gw, 0, none⟩), .slice sl fl.length cl], .bool true]) ?_ rfl ?_
  · exact res_cell_tmp Tryz.results44 _ _ g1 #[.pointer (some ⟨gw, 0, none⟩), .slice sl fl.length cl] _ rfl ((HR3.out.set 0 (.pointer (some ⟨gw, 0, none⟩))).set 1 (.slice sl fl.length cl)) Tryz.underlying61 size_funs
  have hne : gw ≠ g1 := fun h => by
    have h1 := HRow.out
    rw [h] at h1
    have := h1.symm.trans HR3.out
    simp at this
  have hnm : gm ≠ g1 := fun h => by
    have h1 := HMap.out
    unfold MapAt at h1
    rw [h] at h1
    have := h1.symm.trans HR3.out
    simp at this
  exact ⟨gw, gm, ms, _, rfl, (HRow.out.far hne _).far hne _, (HMap.out.set (by simpa using hnm) _).set (by simpa using hnm) _, HMem.out, ⟨sl, cl, by rw [HFl.out]⟩, (HB3.out.setCell (p := ⟨g1, 0, none⟩) (by have := HG.out; simp only; omega) _).setCell (p := ⟨g1, 1, none⟩) (by have := HG.out; simp only; omega) _⟩
set_option maxRecDepth 100000 in
set_option maxHeartbeats 2000000 in
theorem isFun_c (m : Img) (vc vd vn : Value) (x : Int) (w : World) (h : ICells w vc vd vn m) (hs : Sm m) :
    Calls Tryz.prog 43 #[imgVal vc vd vn m, .int .i64 x] w fun e w' => e = .returned (.bool (isFunP m x)) ∧ Below w.heap.size w w' := by
  obtain ⟨ac, cc, rfl⟩ := rd_slice h.c
  obtain ⟨ad, cd, rfl⟩ := rd_slice h.d
  obtain ⟨an, cn, rfl⟩ := nrd_slice h.n
  have HI := hid h
  have HS := hid hs
  clear h hs
  obtain ⟨o, ho⟩ : ∃ o, isFunP m x = o := ⟨_, rfl⟩
  have HQ := hid ho
  rw [ho]
  clear ho
  have hV : imgVal (.slice ac m.code.length cc) (.slice ad m.data.length cd) (.slice an m.names.length cn) m = .agg #[.slice ac m.code.length cc, .int .i64 m.entry, .int .i64 m.room, .slice ad m.data.length cd, .slice an m.names.length cn] := rfl
  have HV := hid hV
  rw [hV]
  clear hV
  have HB1 := hid ((Below.refl w.heap.size w).alloc (Nat.le_refl _) (.cells #[.slice ac m.code.length cc, .int .i64 m.entry, .int .i64 m.room, .slice ad m.data.length cd, .slice an m.names.length cn] 30))
  have HX1 := hid (Row.new w 30 #[.slice ac m.code.length cc, .int .i64 m.entry, .int .i64 m.room, .slice ad m.data.length cd, .slice an m.names.length cn])
  have hw01 : w.heap.size < (w.alloc (.cells #[.slice ac m.code.length cc, .int .i64 m.entry, .int .i64 m.room, .slice ad m.data.length cd, .slice an m.names.length cn] 30)).heap.size := by simp
  go_enter Tryz.func43, Tryz.ntmps43
  go_wp2_with fail
  generalize w.alloc (.cells #[.slice ac m.code.length cc, .int .i64 m.entry, .int .i64 m.room, .slice ad m.data.length cd, .slice an m.names.length cn] 30) = w1 at HB1 HX1 hw01 ⊢
  rw [← HV.out]
  refine (validImage_c m _ _ _ w1 (HI.out.on HB1.out) HS.out).mono ?_
  rintro e w2 ⟨rfl, hb2⟩
  have HB2 := hid (HB1.out.trans (hb2.mono HB1.out.size))
  have HX2 := hid (HX1.out.on hb2)
  have hz2 := hb2.size
  clear hb2
  cases h1 : imageOk m
  · obtain rfl : o = false := by rw [← HQ.out, isFunP, h1]; rfl
    clear h1
    go_wp2_with fail
    go_ret
    exact ⟨rfl, HB2.out⟩
  · have HO := hid (show o = decide (x ∈ funsL m) by rw [← HQ.out, isFunP, h1]; rfl)
    have H1 := hid h1
    have hfl := funsL_len m
    have hl2 := (imageOk_bd h1).c1
    have x0 := HX2.out.cell 0
    have x1 := HX2.out.cell 1
    have x2 := HX2.out.cell 2
    have x3 := HX2.out.cell 3
    have x4 := HX2.out.cell 4
    simp at x0 x1 x2 x3 x4
    have hw02 : w.heap.size < w2.heap.size := by omega
    clear h1
    go_wp2_with fail
    rw [← HV.out]
    refine (sFuns_c m _ _ _ w2 (HI.out.on HB2.out) H1.out).mono ?_
    rintro e w3 ⟨v3, rfl, hown, hb3⟩
    have HB3 := hid (HB2.out.trans (hb3.mono HB2.out.size))
    obtain ⟨fl, hfs⟩ : ∃ l, funsL m = l := ⟨_, rfl⟩
    rw [hfs] at hown hfl HO
    have HOw := hid hown
    obtain ⟨s3, c3, rfl⟩ := own_slice hown
    clear hb3 hown hfs
    go_wp2_with fail
    refine (inList_c fl _ x w3 (.of_own HOw.out) (by omega)).mono ?_
    rintro e w4 ⟨rfl, rfl⟩
    rw [← HO.out]
    go_wp2_with fail
    go_ret
    exact ⟨rfl, HB3.out⟩
noncomputable def bodyP (m : Img) (x : Int) : List Int := if isFunP m x = true then reachL m.code [x] false else []
theorem bodyP_len (m : Img) (x : Int) : (bodyP m x).length ≤ 1000000 := by
  unfold bodyP
  split
  · rename_i h
    have h1 : imageOk m = true := by unfold isFunP at h; exact (Bool.and_eq_true_iff.1 h).1
    have := (imageOk_bd h1).c1
    have := reachL_len m.code [x] false
    omega
  · simp
set_option maxRecDepth 100000 in
set_option maxHeartbeats 4000000 in
theorem bodyOf_c (m : Img) (vc vd vn : Value) (x : Int) (w : World) (h : ICells w vc vd vn m) (hs : Sm m) (hcc : ∀ a n c, vc = .slice a n c → n ≤ c) :
    Calls Tryz.prog 23 #[imgVal vc vd vn m, .int .i64 x] w (WaysPost2 (bodyP m x) w) := by
  obtain ⟨ac, cc, rfl⟩ := rd_slice h.c
  obtain ⟨ad, cd, rfl⟩ := rd_slice h.d
  obtain ⟨an, cn, rfl⟩ := nrd_slice h.n
  have HI := hid h
  have HS := hid hs
  have HCap := hid hcc
  clear h hs hcc
  obtain ⟨o, ho⟩ : ∃ o, bodyP m x = o := ⟨_, rfl⟩
  have HQ := hid ho
  rw [ho]
  clear ho
  have hV : imgVal (.slice ac m.code.length cc) (.slice ad m.data.length cd) (.slice an m.names.length cn) m = .agg #[.slice ac m.code.length cc, .int .i64 m.entry, .int .i64 m.room, .slice ad m.data.length cd, .slice an m.names.length cn] := rfl
  have HV := hid hV
  rw [hV]
  clear hV
  have HB1 := hid ((Below.refl w.heap.size w).alloc (Nat.le_refl _) (.cells #[.slice ac m.code.length cc, .int .i64 m.entry, .int .i64 m.room, .slice ad m.data.length cd, .slice an m.names.length cn] 30))
  have HX1 := hid (Row.new w 30 #[.slice ac m.code.length cc, .int .i64 m.entry, .int .i64 m.room, .slice ad m.data.length cd, .slice an m.names.length cn])
  have hw01 : w.heap.size < (w.alloc (.cells #[.slice ac m.code.length cc, .int .i64 m.entry, .int .i64 m.room, .slice ad m.data.length cd, .slice an m.names.length cn] 30)).heap.size := by simp
  go_enter Tryz.func23, Tryz.ntmps23
  go_wp2_with fail
  generalize w.alloc (.cells #[.slice ac m.code.length cc, .int .i64 m.entry, .int .i64 m.room, .slice ad m.data.length cd, .slice an m.names.length cn] 30) = w1 at HB1 HX1 hw01 ⊢
  rw [← HV.out]
  cases hf : isFunP m x
  · obtain rfl : o = [] := by rw [← HQ.out, bodyP, hf]; rfl
    refine (funsWith_no m _ _ _ x w1 (HI.out.on HB1.out) HS.out HCap.out hf).mono ?_
    rintro e w2 ⟨rfl, hb2⟩
    have HB2 := hid (HB1.out.trans (hb2.mono HB1.out.size))
    clear hb2 hf
    go_wp2_with fail
    go_ret
    exact ⟨_, rfl, World.ownsRow_nil _ _ _ _, HB2.out.alloc HB2.out.size _⟩
  · have HO := hid (show o = reachL m.code [x] false by rw [← HQ.out, bodyP, hf]; rfl)
    have h1 : imageOk m = true := by unfold isFunP at hf; exact (Bool.and_eq_true_iff.1 hf).1
    have hx : x ∈ funsL m := by unfold isFunP at hf; exact of_decide_eq_true (Bool.and_eq_true_iff.1 hf).2
    have HBd := hid (imageOk_bd h1)
    have hl2 := HBd.out.c1
    obtain ⟨p, rfl, hpl, hrc⟩ := funs_rc h1 hx
    have HRc := hid hrc
    refine (funsWith_yes m _ _ _ p w1 (HI.out.on HB1.out) HS.out HCap.out h1 hx).mono ?_
    rintro e w2 ⟨gw, gm, ms, vl, rfl, hrow, hmap, hmem, ⟨sl, cl, rfl⟩, hb2⟩
    obtain ⟨fn, hfn⟩ : ∃ k, (funsL m).length = k := ⟨_, rfl⟩
    rw [hfn]
    obtain ⟨w3, hw3, hr3, hb3, hz3⟩ := new_ex w2 61 #[.pointer (some ⟨gw, 0, none⟩), .slice sl fn cl]
    have HB3 := hid (HB1.out.trans ((hb2.trans (hb3.mono hb2.size)).mono HB1.out.size))
    have HRow := hid (hrow.on hb3)
    have HMap := hid (hmap.on hb3)
    have HMem := hid hmem
    have HR3 := hid hr3
    have hcl : m.code.length ≤ cc := HCap.out _ _ _ rfl
    have HIn := hid (show ∀ q, Rc (Gm m.code false) [(p : Int)] q → (q ∈ insOf m.code ms ↔ (readP m.code q).isSome = true) from fun q hq => by
      rw [mem_insOf]
      exact ⟨fun h => h.2, fun h => ⟨(gw_gm hmem q).2 (rc_sub hrc hq), h⟩⟩)
    clear hf h1 hx hrc hrow hmap hmem hb2 hb3 hr3 hfn
    have y0 := HR3.out.cell 0
    have y1 := HR3.out.cell 1
    simp at y0 y1
    go_wp2_with fail
    clear hw3
    refine (body_c m.code ac cc _ gw gm p (insOf m.code ms) w3 (HI.out.on HB3.out).c hcl HBd.out.cb hl2 (by omega) HRow.out HMap.out HIn.out).mono ?_
    rintro e w4 ⟨v4, rfl, hown, hb4⟩
    rw [← HO.out] at hown
    have HOw := hid (own_mono hown HB3.out.size)
    have HB4 := hid (HB3.out.trans (hb4.mono HB3.out.size))
    obtain ⟨s4, c4, rfl⟩ := own_slice hown
    clear hown hb4
    go_wp2_with fail
    go_ret
    exact ⟨_, rfl, HOw.out, HB4.out⟩
set_option maxRecDepth 100000 in
set_option maxHeartbeats 4000000 in
theorem specBodyOf_c (m : Img) (vc vd vn : Value) (x : Int) (w : World) (h : ICells w vc vd vn m) (hs : Sm m) :
    Calls Tryz.prog 22 #[imgVal vc vd vn m, .int .i64 x] w (WaysPost2 (bodyP m x) w) := by
  obtain ⟨ac, cc, rfl⟩ := rd_slice h.c
  obtain ⟨ad, cd, rfl⟩ := rd_slice h.d
  obtain ⟨an, cn, rfl⟩ := nrd_slice h.n
  have HI := hid h
  have HS := hid hs
  clear h hs
  obtain ⟨o, ho⟩ : ∃ o, bodyP m x = o := ⟨_, rfl⟩
  have HQ := hid ho
  rw [ho]
  clear ho
  have hV : imgVal (.slice ac m.code.length cc) (.slice ad m.data.length cd) (.slice an m.names.length cn) m = .agg #[.slice ac m.code.length cc, .int .i64 m.entry, .int .i64 m.room, .slice ad m.data.length cd, .slice an m.names.length cn] := rfl
  have HV := hid hV
  rw [hV]
  clear hV
  have HB1 := hid ((Below.refl w.heap.size w).alloc (Nat.le_refl _) (.cells #[.slice ac m.code.length cc, .int .i64 m.entry, .int .i64 m.room, .slice ad m.data.length cd, .slice an m.names.length cn] 30))
  have HX1 := hid (Row.new w 30 #[.slice ac m.code.length cc, .int .i64 m.entry, .int .i64 m.room, .slice ad m.data.length cd, .slice an m.names.length cn])
  have hw01 : w.heap.size < (w.alloc (.cells #[.slice ac m.code.length cc, .int .i64 m.entry, .int .i64 m.room, .slice ad m.data.length cd, .slice an m.names.length cn] 30)).heap.size := by simp
  go_enter Tryz.func22, Tryz.ntmps22
  go_wp2_with fail
  generalize w.alloc (.cells #[.slice ac m.code.length cc, .int .i64 m.entry, .int .i64 m.room, .slice ad m.data.length cd, .slice an m.names.length cn] 30) = w1 at HB1 HX1 hw01 ⊢
  rw [← HV.out]
  refine (isFun_c m _ _ _ x w1 (HI.out.on HB1.out) HS.out).mono ?_
  rintro e w2 ⟨rfl, hb2⟩
  have HB2 := hid (HB1.out.trans (hb2.mono HB1.out.size))
  have HX2 := hid (HX1.out.on hb2)
  have hz2 := hb2.size
  clear hb2
  cases hf : isFunP m x
  · obtain rfl : o = [] := by rw [← HQ.out, bodyP, hf]; rfl
    clear hf
    go_wp2_with fail
    go_ret
    exact ⟨_, rfl, World.ownsRow_nil _ _ _ _, HB2.out⟩
  · have HO := hid (show o = reachL m.code [x] false by rw [← HQ.out, bodyP, hf]; rfl)
    have h1 : imageOk m = true := by unfold isFunP at hf; exact (Bool.and_eq_true_iff.1 hf).1
    have hx : x ∈ funsL m := by unfold isFunP at hf; exact of_decide_eq_true (Bool.and_eq_true_iff.1 hf).2
    have HBd := hid (imageOk_bd h1)
    have hl2 := HBd.out.c1
    obtain ⟨p, rfl, hpl, _⟩ := funs_rc h1 hx
    have x0 := HX2.out.cell 0
    simp at x0
    have hw02 : w.heap.size < w2.heap.size := by omega
    clear hf h1 hx
    have HB3 := hid (HB2.out.alloc HB2.out.size (.cells #[.int .i64 p] 3))
    have HRs := hid (Rd.of_own (own_lit w2 [(p : Int)] #[.int .i64 p] rfl (by simp) 1 rfl))
    go_wp2_with fail
    refine (walk_c m.code [(p : Int)] false ac _ cc _ _ (HI.out.on HB3.out).c HRs.out HBd.out.cb hl2 (by omega) (fun q hq => by obtain rfl : q = (p : Int) := (by simpa using hq); omega) (by simp)).mono ?_
    rintro e w3 ⟨v, ms, rfl, hown, hms, hb3⟩
    have HB4 := hid (HB3.out.trans (hb3.mono HB3.out.size))
    rw [trues_reach hms, ← HO.out] at hown
    have HOw := hid (own_mono hown HB3.out.size)
    obtain ⟨s, c, rfl⟩ := own_slice hown
    clear hown hms hb3
    go_wp2_with fail
    go_ret
    exact ⟨_, rfl, HOw.out, HB4.out⟩
set_option maxRecDepth 100000 in
set_option maxHeartbeats 2000000 in
theorem wcalledIn_c (code : List Int) (ac : Option Addr) (cc : Nat) (lb : Value) (gw gm at_ : Nat) (ms0 : List Nat) (w : World) (hr : Rd w (.slice ac code.length cc) code) (hcap : code.length ≤ cc) (hby : code.all isByte = true) (hlen : code.length ≤ 2000) (hat : at_ ≤ 2000)
    (hw : Row w gw 84 #[.slice ac code.length cc, .map (some gm), lb]) (hm : MapAt w gm code ms0) (hms0 : ∀ p, Rc (Gm code false) [(at_ : Int)] p → (p ∈ ms0 ↔ (readP code p).isSome = true)) (hms1 : ∀ p ∈ ms0, (readP code p).isSome = true) :
    Calls Tryz.prog 47 #[.pointer (some ⟨gw, 0, none⟩), .int .i64 at_] w (WaysPost2 (calledL code (reachL code [(at_ : Int)] false)) w) := by
  have HW := hid hw
  have HM := hid hm
  have HR := hid hr
  have HBy := hid hby
  have HMs := hid hms0
  have HM1 := hid hms1
  clear hr hby hw hm hms0 hms1
  go_enter Tryz.func47, Tryz.ntmps47
  go_wp2_with fail
  refine (body_c code ac cc lb gw gm at_ ms0 w HR.out hcap HBy.out hlen hat HW.out HM.out HMs.out).mono ?_
  rintro e w1 ⟨v1, rfl, hown, hb1⟩
  have hpl : ∀ x ∈ reachL code [(at_ : Int)] false, ∃ p : Nat, x = p ∧ p ∈ ms0 := fun x hx => by
    obtain ⟨p, e, _, h1, h2⟩ := reachL_mem hx
    exact ⟨p, e, (HMs.out p h1).2 h2⟩
  have hll := reachL_len code [(at_ : Int)] false
  obtain ⟨bl, hbl⟩ : ∃ l, reachL code [(at_ : Int)] false = l := ⟨_, rfl⟩
  rw [hbl] at hown hpl hll
  have HBl := hid hbl
  have HPl := hid hpl
  have HOw := hid hown
  have HB1 := hid hb1
  have HW1 := hid (HW.out.on hb1)
  have HMp1 := hid (HM.out.on hb1)
  obtain ⟨s1, c1, rfl⟩ := own_slice hown
  clear hown hb1 hbl hpl
  go_wp2_with fail
  refine (calledAt_c code ac cc lb gw gm ms0 bl _ w1 HW1.out HMp1.out (.of_own HOw.out) HPl.out HM1.out (by omega)).mono ?_
  rintro e w2 ⟨v2, rfl, hown, hb2⟩
  obtain ⟨cl, hcl⟩ : ∃ l, calledL code bl = l := ⟨_, rfl⟩
  rw [hcl] at hown
  have HCl := hid hcl
  have HO2 := hid (own_mono hown HB1.out.size)
  have HB2 := hid (HB1.out.trans (hb2.mono HB1.out.size))
  obtain ⟨s2, c2, rfl⟩ := own_slice hown
  clear hown hb2 hcl
  go_wp2_with fail
  go_ret
  rw [HBl.out, HCl.out]
  exact ⟨_, rfl, HO2.out, HB2.out⟩
noncomputable def calledP (m : Img) (x : Int) : List Int := if isFunP m x = true then calledL m.code (reachL m.code [x] false) else []
theorem calledP_len (m : Img) (x : Int) : (calledP m x).length ≤ 1000000 := by
  unfold calledP
  split
  · rename_i h
    have h1 : imageOk m = true := by unfold isFunP at h; exact (Bool.and_eq_true_iff.1 h).1
    have := (imageOk_bd h1).c1
    have := calledL_len m.code (reachL m.code [x] false)
    omega
  · simp
set_option maxRecDepth 100000 in
set_option maxHeartbeats 4000000 in
theorem calledIn_c (m : Img) (vc vd vn : Value) (x : Int) (w : World) (h : ICells w vc vd vn m) (hs : Sm m) (hcc : ∀ a n c, vc = .slice a n c → n ≤ c) :
    Calls Tryz.prog 25 #[imgVal vc vd vn m, .int .i64 x] w (WaysPost2 (calledP m x) w) := by
  obtain ⟨ac, cc, rfl⟩ := rd_slice h.c
  obtain ⟨ad, cd, rfl⟩ := rd_slice h.d
  obtain ⟨an, cn, rfl⟩ := nrd_slice h.n
  have HI := hid h
  have HS := hid hs
  have HCap := hid hcc
  clear h hs hcc
  obtain ⟨o, ho⟩ : ∃ o, calledP m x = o := ⟨_, rfl⟩
  have HQ := hid ho
  rw [ho]
  clear ho
  have hV : imgVal (.slice ac m.code.length cc) (.slice ad m.data.length cd) (.slice an m.names.length cn) m = .agg #[.slice ac m.code.length cc, .int .i64 m.entry, .int .i64 m.room, .slice ad m.data.length cd, .slice an m.names.length cn] := rfl
  have HV := hid hV
  rw [hV]
  clear hV
  have HB1 := hid ((Below.refl w.heap.size w).alloc (Nat.le_refl _) (.cells #[.slice ac m.code.length cc, .int .i64 m.entry, .int .i64 m.room, .slice ad m.data.length cd, .slice an m.names.length cn] 30))
  have HX1 := hid (Row.new w 30 #[.slice ac m.code.length cc, .int .i64 m.entry, .int .i64 m.room, .slice ad m.data.length cd, .slice an m.names.length cn])
  have hw01 : w.heap.size < (w.alloc (.cells #[.slice ac m.code.length cc, .int .i64 m.entry, .int .i64 m.room, .slice ad m.data.length cd, .slice an m.names.length cn] 30)).heap.size := by simp
  go_enter Tryz.func25, Tryz.ntmps25
  go_wp2_with fail
  generalize w.alloc (.cells #[.slice ac m.code.length cc, .int .i64 m.entry, .int .i64 m.room, .slice ad m.data.length cd, .slice an m.names.length cn] 30) = w1 at HB1 HX1 hw01 ⊢
  rw [← HV.out]
  cases hf : isFunP m x
  · obtain rfl : o = [] := by rw [← HQ.out, calledP, hf]; rfl
    refine (funsWith_no m _ _ _ x w1 (HI.out.on HB1.out) HS.out HCap.out hf).mono ?_
    rintro e w2 ⟨rfl, hb2⟩
    have HB2 := hid (HB1.out.trans (hb2.mono HB1.out.size))
    clear hb2 hf
    go_wp2_with fail
    go_ret
    exact ⟨_, rfl, World.ownsRow_nil _ _ _ _, HB2.out.alloc HB2.out.size _⟩
  · have HO := hid (show o = calledL m.code (reachL m.code [x] false) by rw [← HQ.out, calledP, hf]; rfl)
    have h1 : imageOk m = true := by unfold isFunP at hf; exact (Bool.and_eq_true_iff.1 hf).1
    have hx : x ∈ funsL m := by unfold isFunP at hf; exact of_decide_eq_true (Bool.and_eq_true_iff.1 hf).2
    have HBd := hid (imageOk_bd h1)
    have hl2 := HBd.out.c1
    obtain ⟨p, rfl, hpl, hrc⟩ := funs_rc h1 hx
    have HRc := hid hrc
    refine (funsWith_yes m _ _ _ p w1 (HI.out.on HB1.out) HS.out HCap.out h1 hx).mono ?_
    rintro e w2 ⟨gw, gm, ms, vl, rfl, hrow, hmap, hmem, ⟨sl, cl, rfl⟩, hb2⟩
    obtain ⟨fn, hfn⟩ : ∃ k, (funsL m).length = k := ⟨_, rfl⟩
    rw [hfn]
    obtain ⟨w3, hw3, hr3, hb3, hz3⟩ := new_ex w2 61 #[.pointer (some ⟨gw, 0, none⟩), .slice sl fn cl]
    have HB3 := hid (HB1.out.trans ((hb2.trans (hb3.mono hb2.size)).mono HB1.out.size))
    have HRow := hid (hrow.on hb3)
    have HMap := hid (hmap.on hb3)
    have HMem := hid hmem
    have HR3 := hid hr3
    have hcl : m.code.length ≤ cc := HCap.out _ _ _ rfl
    have HIn := hid (show ∀ q, Rc (Gm m.code false) [(p : Int)] q → (q ∈ insOf m.code ms ↔ (readP m.code q).isSome = true) from fun q hq => by
      rw [mem_insOf]
      exact ⟨fun h => h.2, fun h => ⟨(gw_gm hmem q).2 (rc_sub hrc hq), h⟩⟩)
    clear hf h1 hx hrc hrow hmap hmem hb2 hb3 hr3 hfn
    have y0 := HR3.out.cell 0
    have y1 := HR3.out.cell 1
    simp at y0 y1
    go_wp2_with fail
    clear hw3
    refine (wcalledIn_c m.code ac cc _ gw gm p (insOf m.code ms) w3 (HI.out.on HB3.out).c hcl HBd.out.cb hl2 (by omega) HRow.out HMap.out HIn.out (fun q hq => (mem_insOf.1 hq).2)).mono ?_
    rintro e w4 ⟨v4, rfl, hown, hb4⟩
    rw [← HO.out] at hown
    have HOw := hid (own_mono hown HB3.out.size)
    have HB4 := hid (HB3.out.trans (hb4.mono HB3.out.size))
    obtain ⟨s4, c4, rfl⟩ := own_slice hown
    clear hown hb4
    go_wp2_with fail
    go_ret
    exact ⟨_, rfl, HOw.out, HB4.out⟩
set_option maxRecDepth 100000 in
set_option maxHeartbeats 4000000 in
theorem specCalledIn_c (m : Img) (vc vd vn : Value) (x : Int) (w : World) (h : ICells w vc vd vn m) (hs : Sm m) :
    Calls Tryz.prog 24 #[imgVal vc vd vn m, .int .i64 x] w (WaysPost2 (calledP m x) w) := by
  obtain ⟨ac, cc, rfl⟩ := rd_slice h.c
  obtain ⟨ad, cd, rfl⟩ := rd_slice h.d
  obtain ⟨an, cn, rfl⟩ := nrd_slice h.n
  have HI := hid h
  have HS := hid hs
  clear h hs
  obtain ⟨o, ho⟩ : ∃ o, calledP m x = o := ⟨_, rfl⟩
  have HQ := hid ho
  rw [ho]
  clear ho
  have hV : imgVal (.slice ac m.code.length cc) (.slice ad m.data.length cd) (.slice an m.names.length cn) m = .agg #[.slice ac m.code.length cc, .int .i64 m.entry, .int .i64 m.room, .slice ad m.data.length cd, .slice an m.names.length cn] := rfl
  have HV := hid hV
  rw [hV]
  clear hV
  have HB1 := hid ((Below.refl w.heap.size w).alloc (Nat.le_refl _) (.cells #[.slice ac m.code.length cc, .int .i64 m.entry, .int .i64 m.room, .slice ad m.data.length cd, .slice an m.names.length cn] 30))
  have HX1 := hid (Row.new w 30 #[.slice ac m.code.length cc, .int .i64 m.entry, .int .i64 m.room, .slice ad m.data.length cd, .slice an m.names.length cn])
  have hw01 : w.heap.size < (w.alloc (.cells #[.slice ac m.code.length cc, .int .i64 m.entry, .int .i64 m.room, .slice ad m.data.length cd, .slice an m.names.length cn] 30)).heap.size := by simp
  go_enter Tryz.func24, Tryz.ntmps24
  go_wp2_with fail
  generalize w.alloc (.cells #[.slice ac m.code.length cc, .int .i64 m.entry, .int .i64 m.room, .slice ad m.data.length cd, .slice an m.names.length cn] 30) = w1 at HB1 HX1 hw01 ⊢
  rw [← HV.out]
  refine (isFun_c m _ _ _ x w1 (HI.out.on HB1.out) HS.out).mono ?_
  rintro e w2 ⟨rfl, hb2⟩
  have HB2 := hid (HB1.out.trans (hb2.mono HB1.out.size))
  have HX2 := hid (HX1.out.on hb2)
  have hz2 := hb2.size
  clear hb2
  cases hf : isFunP m x
  · obtain rfl : o = [] := by rw [← HQ.out, calledP, hf]; rfl
    clear hf
    go_wp2_with fail
    go_ret
    exact ⟨_, rfl, World.ownsRow_nil _ _ _ _, HB2.out⟩
  · have HO := hid (show o = calledL m.code (reachL m.code [x] false) by rw [← HQ.out, calledP, hf]; rfl)
    have h1 : imageOk m = true := by unfold isFunP at hf; exact (Bool.and_eq_true_iff.1 hf).1
    have hx : x ∈ funsL m := by unfold isFunP at hf; exact of_decide_eq_true (Bool.and_eq_true_iff.1 hf).2
    have HBd := hid (imageOk_bd h1)
    have hl2 := HBd.out.c1
    obtain ⟨p, rfl, hpl, _⟩ := funs_rc h1 hx
    have x0 := HX2.out.cell 0
    simp at x0
    have hw02 : w.heap.size < w2.heap.size := by omega
    clear hf h1 hx
    go_wp2_with fail
    refine (sCalledIn_c m.code ac cc p w2 (HI.out.on HB2.out).c HBd.out.cb hl2 (by omega) (by omega) (by omega)).mono ?_
    rintro e w3 ⟨v, rfl, hown, hb3⟩
    have HB4 := hid (HB2.out.trans (hb3.mono HB2.out.size))
    rw [← HO.out] at hown
    have HOw := hid (own_mono hown HB2.out.size)
    obtain ⟨s, c, rfl⟩ := own_slice hown
    clear hown hb3
    go_wp2_with fail
    go_ret
    exact ⟨_, rfl, HOw.out, HB4.out⟩
end Go.Proofs.YtiokmebmimgdjaaGreat.Wk
