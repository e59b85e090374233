/- L6dm: several texts in one. -/
import Derived.Test.YtihhpgklpichgaaGreatBo
import Derived.Test.YtihhpgklpichgaaGreatFu
import Derived.Test.YtihhpgklpichgaaGreatL3a
import Derived.Test.YtihhpgklpichgaaGreatSwCap
/- body, funsWith of the program, isFun of the model; BodyOf and CalledIn of both. -/
set_option linter.unusedSimpArgs false
set_option linter.unusedVariables false
namespace Go.Proofs.YtihhpgklpichgaaGreat.Wk
open Go.RowKit Pl Ft Mm In C2 Im Sw

theorem bodyL_len {code : List Int} {ms : List Nat} (hnd : ms.Nodup) (hb : ∀ q ∈ ms, q ≤ 100000) : (bodyL code ms).length ≤ 100001 := by
  unfold bodyL
  rw [List.length_map]
  exact rc_nodup_le 100001 _ (hnd.filter _) (fun q hq => by have := hb q (mem_insOf.1 hq).1; omega)
theorem body_leads (code : List Int) (ac : Option Addr) (cc : Nat) (lb : Value) (gw gm gp gl : Nat) (ms0 : List Nat) (S : List Int) (w00 wS : World)
    (hr : Rd w00 (.slice ac code.length cc) code) (hcap : code.length ≤ cc) (hb00 : Below w00.heap.size w00 wS) (hgl0 : w00.heap.size ≤ gl) (hgl : gl < wS.heap.size) (hby : code.all isByte = true) (hlen : code.length ≤ 2000)
    (hw : Row wS gw 88 #[.slice ac code.length cc, .map (some gm), lb]) (hm : MapAt wS gm code ms0) (hp : Row wS gp 52 #[.pointer (some ⟨gw, 0, none⟩)]) (h1 : gw ≠ gl) (h2 : gm ≠ gl) (h3 : gp ≠ gl)
    (hms0 : ∀ p, Rc (Gm code false) S p → (p ∈ ms0 ↔ (readP code p).isSome = true)) (hGB : GBd (Gm code false) S 100000 10) :
    LeadsF (toL (Gm code false)) (S.map Int.toNat) 100001 99 #[] #[.pointer (some ⟨gp, 0, none⟩), .pointer (some ⟨gl, 0, none⟩)] (fun ms T w => BdSt code gl wS ms T w ∧ ms.Nodup ∧ ∀ q ∈ ms, q ≤ 100000) where
  call ms T p w hI hpN1 hn hrc1 _ := by
    have hpN : p ≤ 100000 := by omega
    have hrc := (rc_av hGB p).2 hrc1
    have hnd : (ms ++ [p]).Nodup := by
      rw [List.nodup_append]
      exact ⟨hI.2.1, by simp, fun a ha b hb => by
        obtain rfl : b = p := by simpa using hb
        exact fun e => hn (e ▸ ha)⟩
    have hbd : ∀ q ∈ ms ++ [p], q ≤ 100000 := fun q hq => by
      rcases List.mem_append.1 hq with h | h
      · exact hI.2.2 q h
      · obtain rfl : q = p := by simpa using h
        exact hpN
    refine (bodyFn_c code ac cc lb gw gm gp gl ms0 w00 wS ms T p w hr hcap hb00 hgl0 hgl hby hlen hw hm hp h1 h2 h3 (hms0 p hrc) hpN hI.1 (bodyL_len hnd hbd)).mono ?_
    rintro e w' ⟨v, T', B', rfl, hB, hTB, ho, hs, hT, hon⟩
    exact ⟨v, T', rfl, by rw [show natI (toL (Gm code false) p) = Gm code false p from natI_toN (fun q hq => (hGB.bd p hpN q hq).1)]; exact Rd.of_own ho, fun k hk => ⟨by have := (ho.lt k hk).1; omega, fun h => by have := (ho.lt k hk).1; have := hTB k h; omega⟩, ⟨hs, hnd, hbd⟩, hT, hon⟩
  enter xs w := by kernel_rfl
  on ms T w w' z hI hz ho := ⟨hI.1.on hgl hz ho, hI.2⟩
  lt ms T w hI k hk := hI.1.lt k hk
  len p hp := by
    unfold toL
    rw [List.length_map]
    have := hGB.len p (by omega)
    omega
set_option maxRecDepth 100000 in
set_option maxHeartbeats 4000000 in
theorem body_c (code : List Int) (ac : Option Addr) (cc : Nat) (lb : Value) (gw gm at_ : Nat) (ms0 : List Nat) (w : World) (hr : Rd w (.slice ac code.length cc) code) (hcap : code.length ≤ cc) (hby : code.all isByte = true) (hlen : code.length ≤ 2000) (hat : at_ ≤ 2000)
    (hw : Row w gw 88 #[.slice ac code.length cc, .map (some gm), lb]) (hm : MapAt w gm code ms0) (hms0 : ∀ p, Rc (Gm code false) [(at_ : Int)] p → (p ∈ ms0 ↔ (readP code p).isSome = true)) :
    Calls Tryz.prog 57 #[.pointer (some ⟨gw, 0, none⟩), .int .i64 at_] w (WaysPost2 (reachL code [(at_ : Int)] false) w) := by
  have HRd := hid hr
  have HBy := hid hby
  have HW := hid hw
  have HM := hid hm
  have HMs := hid hms0
  have hgw := hw.lt
  have hgm := hm.lt
  obtain ⟨w1, hw1, hr1, hb1, hz1⟩ := new_ex w 52 #[.pointer (some ⟨gw, 0, none⟩)]
  obtain ⟨w2, hw2, hr2, hb2, hz2⟩ := new_ex w1 22 #[.slice none 0 0]
  obtain ⟨w3, hw3, _, hb3, hz3⟩ := new_ex w2 3 #[.int .i64 at_]
  have HL3 := hid (show w3.ownsRow w2.heap.size 3 1 (.slice (some ⟨w2.heap.size, 0, none⟩) 1 1) 1 (ints [(at_ : Int)]) by rw [← hw3]; exact own_lit w2 [(at_ : Int)] #[.int .i64 at_] rfl (by simp) 1 rfl)
  have hb02 := hb1.trans (hb2.mono (Nat.le_of_lt hz1))
  have HB2 := hid hb02
  have HB23 := hid hb3
  have HP2 := hid (hr1.on hb2)
  have HR2 := hid hr2
  have HR3 := hid (hr2.on hb3)
  have HW2 := hid (hw.on hb02)
  have HM2 := hid (hm.on hb02)
  clear hr hby hw hm hms0 hr1 hr2 hb1 hb2 hb3 hb02
  go_enter Tryz.func57, Tryz.ntmps57
  go_wp2_with fail
  clear hw1 hw2 hw3
  have HG := hid (show w.heap.size < w2.heap.size ∧ w1.heap.size < w2.heap.size ∧ w.heap.size < w1.heap.size by omega)
  have hGB := gm_bd HBy.out hlen false (S := [(at_ : Int)]) (fun q hq => by obtain rfl : q = (at_ : Int) := (by simpa using hq); omega)
  have HGB := hid hGB
  have hgb := gbd_lt hGB
  refine (reached_f [at_] _ _ (body_leads code ac cc lb gw gm w.heap.size w1.heap.size ms0 [(at_ : Int)] w w2 HRd.out hcap HB2.out (by omega) (by omega) HBy.out hlen HW2.out HM2.out HP2.out (by omega) (by omega) (by omega) HMs.out hGB) hgb.1 (by omega) (by simp; omega) (by simp) (Rd.of_own HL3.out) (fun k hk => ?_) ⟨⟨⟨_, rfl, HR3.out, World.ownsRow_nil _ _ _ _⟩, .of_below HB23.out, by simp [bodyL, insOf]⟩, List.nodup_nil, fun q hq => by cases hq⟩).mono ?_
  · have h1 := HL3.out.lt k hk
    exact ⟨h1.2, fun h => by
      rcases h with h | h
      · have := h1.1; omega
      · cases h⟩
  rintro e w4 ⟨ms, lf, v4, T, rfl, hd, hown4, ⟨hst, _, _⟩, _⟩
  have hmem := dfs_rc HGB.out hd
  have hnd := hd.nodup List.nodup_nil
  obtain ⟨s4, c4, rfl⟩ := own_slice hown4
  clear hd hown4 hGB hgb
  obtain ⟨lv, rfl, hrow, hown⟩ := hst.ex
  have HOn := hid hst.only
  have hsl := hst.len
  have hso : sortI (bodyL code ms) = reachL code [(at_ : Int)] false := by
    rw [← trues_reach hmem]
    exact sorted_trues (.refl _) (hnd.filter _) insOf_lt
  obtain ⟨bl, hbl⟩ : ∃ l, bodyL code ms = l := ⟨_, rfl⟩
  rw [hbl] at hown hsl hso
  have HSo := hid hso
  have HO4 := hid hown
  have HR4 := hid hrow
  have l0 := hrow.cell 0
  obtain ⟨ls, lc, rfl⟩ := own_slice hown
  simp at l0
  clear hst hmem hnd hrow hown hso hbl
  go_wp2_with fail
  refine (sort_c w2.heap.size bl _ w4 HO4.out (by omega)).mono ?_
  rintro e w5 ⟨rfl, hown5, ho5⟩
  have hfar := fun k (hk : (Value.slice ls bl.length lc).ownBlock = some k) => (HO4.out.lt k hk).1
  have HR5 := hid (row_only HR4.out (fun h => by have := hfar _ h; omega) ho5)
  have HOn5 := hid (only_mix HOn.out ho5 (fun k hk => .inr (hfar k hk)))
  have l1 := HR5.out.cell 0
  simp at l1
  rw [HSo.out] at hown5
  obtain ⟨rl, hrl⟩ : ∃ l, reachL code [(at_ : Int)] false = l := ⟨_, rfl⟩
  rw [hrl] at hown5
  have hll : rl.length = bl.length := by rw [← hrl, ← HSo.out]; exact sortI_len bl
  have HRl := hid hrl
  have HLl := hid hll
  have HO5 := hid hown5
  clear l0 ho5 hown5 hrl hll hfar
  go_wp2_with fail
  go_ret
  rw [HRl.out]
  exact ⟨_, rfl, own_mono HO5.out (by omega), HB2.out.trans (HOn5.out.below HB2.out.size (fun k hk => by rw [hk]; omega))⟩
end Go.Proofs.YtihhpgklpichgaaGreat.Wk
namespace Go.Proofs.YtihhpgklpichgaaGreat.Wk
open Go.RowKit Pl Ft Mm In C2 Im Sw

def IdxPost2 (l : List Int) (x : Int) (w : World) (e : Ending) (w' : World) : Prop := ∃ r : Int, e = .returned (.int .i64 r) ∧ ((x ∈ l ∧ 0 ≤ r ∧ r ≤ 1000000) ∨ (x ∉ l ∧ r = -1)) ∧ w' = w
set_option maxHeartbeats 1000000 in
theorem idx_c (l : List Int) (v : Value) (x : Int) (w : World) (hr : Rd w v l) (hl : l.length ≤ 1000000) : Calls Tryz.prog 103 #[v, .int .i64 x] w (IdxPost2 l x w) := by
  obtain ⟨a, cap, rfl, ha⟩ := hr
  have HA := hid ha
  clear ha
  go_enter Tryz.func103, Tryz.ntmps103
  go_wp2_with fail
  go_loopw [8] (fun c wr => ∃ k : Nat, c = .int .i64 k ∧ k ≤ l.length ∧ (∀ y ∈ l.take k, y ≠ x) ∧ wr = w) (fun c _ => l.length - (intOf c).toNat)
  case atStart => exact ⟨0, rfl, by omega, by simp, rfl⟩
  case round =>
    obtain ⟨k, rfl, hk, hno, rfl⟩ := hrel
    have HNo := hid hno
    clear hno
    by_cases hlt : k < l.length
    · rcases HA.out with h | ⟨g, o, rfl, hg, hcs⟩
      · subst h; simp at hlt
      have q0 := hcs k hlt
      have hgd : l.getD k 0 = l[k] := by simp [hlt]
      rw [hgd] at q0
      have HMem := hid (List.getElem_mem hlt)
      have HTk := hid (List.take_succ_eq_append_getElem hlt)
      obtain ⟨y, hy⟩ : ∃ y, l[k] = y := ⟨_, rfl⟩
      rw [hy] at q0 HMem HTk
      clear hcs hgd hy
      by_cases he : x = y
      · subst he
        go_wp2_with fail
        go_ret
        exact ⟨_, rfl, .inl ⟨HMem.out, by omega, by omega⟩, rfl⟩
      · have hne : (x == y) = false := by rw [beq_eq_false_iff_ne]; exact he
        have HE := hid he
        clear he
        go_wp2_with fail
        go_roundw
        case rel => exact ⟨k + 1, by go_num, by omega, fun z hz => by
          rw [HTk.out] at hz
          rcases List.mem_append.1 hz with h | h
          · exact HNo.out z h
          · obtain rfl : z = y := by simpa using h
            exact fun h => HE.out h.symm, by first | rfl | trivial⟩
        case measure => simp [intOf]; omega
    · obtain rfl : k = l.length := by omega
      go_wp2_with fail
      go_ret
      refine ⟨_, rfl, .inr ⟨fun h => ?_, rfl⟩, rfl⟩
      have h2 := HNo.out
      rw [List.take_length] at h2
      exact h2 x h rfl
theorem contains_c (l : List Int) (v : Value) (x : Int) (w : World) (hr : Rd w v l) (hl : l.length ≤ 1000000) : Calls Tryz.prog 62 #[v, .int .i64 x] w fun e w' => e = .returned (.bool (decide (x ∈ l))) ∧ w' = w := by
  have HR := hid hr
  obtain ⟨a, cap, rfl, _⟩ := hr
  go_enter Tryz.func62, Tryz.ntmps62
  go_wp2_with fail
  refine (idx_c l _ x w HR.out hl).mono ?_
  rintro e w1 ⟨r, rfl, h, rfl⟩
  rcases h with ⟨h1, h2, h3⟩ | ⟨h1, rfl⟩
  · have HD := hid (decide_eq_true h1)
    clear h1
    go_wp2_with fail
    go_ret
    rw [HD.out]
    exact ⟨rfl, rfl⟩
  · have HD := hid (decide_eq_false h1)
    clear h1
    go_wp2_with fail
    go_ret
    rw [HD.out]
    exact ⟨rfl, rfl⟩
set_option maxHeartbeats 1000000 in
theorem placeOf_c (l : List Int) (v : Value) (x : Int) (w : World) (hr : Rd w v l) (hl : l.length ≤ 1000000) : Calls Tryz.prog 102 #[v, .int .i64 x] w (IdxPost2 l x w) := by
  obtain ⟨a, cap, rfl, ha⟩ := hr
  have HA := hid ha
  clear ha
  go_enter Tryz.func102, Tryz.ntmps102
  go_wp2_with fail
  go_loopw [5] (fun c wr => ∃ k : Nat, c = .int .i64 k ∧ k ≤ l.length ∧ (∀ y ∈ l.take k, y ≠ x) ∧ wr = w) (fun c _ => l.length - (intOf c).toNat)
  case atStart => exact ⟨0, rfl, by omega, by simp, rfl⟩
  case round =>
    obtain ⟨k, rfl, hk, hno, rfl⟩ := hrel
    have HNo := hid hno
    clear hno
    by_cases hlt : k < l.length
    · rcases HA.out with h | ⟨g, o, rfl, hg, hcs⟩
      · subst h; simp at hlt
      have q0 := hcs k hlt
      have hgd : l.getD k 0 = l[k] := by simp [hlt]
      rw [hgd] at q0
      have HMem := hid (List.getElem_mem hlt)
      have HTk := hid (List.take_succ_eq_append_getElem hlt)
      obtain ⟨y, hy⟩ : ∃ y, l[k] = y := ⟨_, rfl⟩
      rw [hy] at q0 HMem HTk
      clear hcs hgd hy
      by_cases he : y = x
      · subst he
        go_wp2_with fail
        go_ret
        exact ⟨_, rfl, .inl ⟨HMem.out, by omega, by omega⟩, rfl⟩
      · have hne : (y == x) = false := by rw [beq_eq_false_iff_ne]; exact he
        have HE := hid he
        clear he
        go_wp2_with fail
        go_roundw
        case rel => exact ⟨k + 1, by go_num, by omega, fun z hz => by
          rw [HTk.out] at hz
          rcases List.mem_append.1 hz with h | h
          · exact HNo.out z h
          · obtain rfl : z = y := by simpa using h
            exact HE.out, by first | rfl | trivial⟩
        case measure => simp [intOf]; omega
    · obtain rfl : k = l.length := by omega
      go_wp2_with fail
      go_ret
      refine ⟨_, rfl, .inr ⟨fun h => ?_, rfl⟩, rfl⟩
      have h2 := HNo.out
      rw [List.take_length] at h2
      exact h2 x h rfl
theorem inList_c (l : List Int) (v : Value) (x : Int) (w : World) (hr : Rd w v l) (hl : l.length ≤ 1000000) : Calls Tryz.prog 60 #[v, .int .i64 x] w fun e w' => e = .returned (.bool (decide (x ∈ l))) ∧ w' = w := by
  have HR := hid hr
  obtain ⟨a, cap, rfl, _⟩ := hr
  go_enter Tryz.func60, Tryz.ntmps60
  go_wp2_with fail
  refine (placeOf_c l _ x w HR.out hl).mono ?_
  rintro e w1 ⟨r, rfl, h, rfl⟩
  rcases h with ⟨h1, h2, h3⟩ | ⟨h1, rfl⟩
  · have HD := hid (decide_eq_true h1)
    clear h1
    go_wp2_with fail
    go_ret
    rw [HD.out]
    exact ⟨rfl, rfl⟩
  · have HD := hid (decide_eq_false h1)
    clear h1
    go_wp2_with fail
    go_ret
    rw [HD.out]
    exact ⟨rfl, rfl⟩
/-- A function is reached. -/
theorem funs_rc {m : Img} {x : Int} (hok : imageOk m = true) (h : x ∈ funsL m) : ∃ p : Nat, x = p ∧ p < m.code.length ∧ Rc (Gm m.code true) [m.entry] p := by
  have hb := imageOk_bd hok
  have he0 := hb.e0
  have he1 := hb.e1
  unfold funsL at h
  rcases List.mem_cons.1 h with rfl | h
  · exact ⟨m.entry.toNat, by omega, by omega, .start _ (by rw [show ((m.entry.toNat : Nat) : Int) = m.entry by omega]; simp)⟩
  · unfold othersL at h
    have h1 := (List.mem_filter.1 h).1
    unfold calledL at h1
    obtain ⟨q, hq, rfl⟩ := List.mem_map.1 h1
    have h2 := of_decide_eq_true (List.mem_filter.1 hq).2
    obtain ⟨y, hy, hc⟩ := List.mem_filterMap.1 h2
    obtain ⟨p, rfl, _, hrc, _⟩ := reachL_mem hy
    unfold callAt at hc
    rw [Int.toNat_natCast] at hc
    refine ⟨q, rfl, List.mem_range.1 (List.mem_filter.1 hq).1, .step p q hrc ?_⟩
    unfold Gm
    cases hr : readP m.code p with
    | none => rw [hr] at hc; cases hc
    | some i =>
      rw [hr] at hc
      simp only at hc ⊢
      split at hc
      · rename_i hcc
        have := Option.some.inj hc
        rw [if_pos (by first | exact ⟨rfl, hcc.1⟩ | exact ⟨trivial, hcc.1⟩ | exact hcc.1), List.mem_append]
        exact .inr (by simp [this])
      · cases hc
theorem rc_sub {code : List Int} {S : List Int} {p q : Nat} (hp : Rc (Gm code true) S p) (h : Rc (Gm code false) [(p : Int)] q) : Rc (Gm code true) S q := by
  induction h with
  | start r hr =>
    obtain rfl : r = p := by have := List.mem_singleton.1 hr; omega
    exact hp
  | step a b _ hb ih =>
    refine .step a b ih ?_
    unfold Gm at hb ⊢
    cases hr : readP code a with
    | none => rw [hr] at hb; cases hb
    | some i =>
      rw [hr] at hb
      simp only at hb ⊢
      rw [List.mem_append] at hb ⊢
      rcases hb with h | h
      · exact .inl h
      · simp at h
end Go.Proofs.YtihhpgklpichgaaGreat.Wk
namespace Go.Proofs.YtihhpgklpichgaaGreat.Wk
open Go.RowKit Pl Ft Mm In C2 Im Sw

noncomputable def isFunP (m : Img) (x : Int) : Bool := imageOk m && decide (x ∈ funsL m)
def FwNo (w : World) (e : Ending) (w' : World) : Prop := e = .returned (.tuple #[.agg #[.pointer none, .slice none 0 0], .bool false]) ∧ Below w.heap.size w w'
set_option maxRecDepth 100000 in
set_option maxHeartbeats 4000000 in
theorem funsWith_no (m : Img) (vc vd vn : Value) (x : Int) (w : World) (h : ICells w vc vd vn m) (hs : Sm m) (hcc : ∀ a n c, vc = .slice a n c → n ≤ c) (hf : isFunP m x = false) :
    Calls Tryz.prog 56 #[imgVal vc vd vn m, .int .i64 x] w (FwNo w) := by
  obtain ⟨ac, cc, rfl⟩ := rd_slice h.c
  obtain ⟨ad, cd, rfl⟩ := rd_slice h.d
  obtain ⟨an, cn, rfl⟩ := nrd_slice h.n
  have HI := hid h
  have HS := hid hs
  have HCap := hid hcc
  have HF := hid hf
  clear h hs hcc hf
  have hV : imgVal (.slice ac m.code.length cc) (.slice ad m.data.length cd) (.slice an m.names.length cn) m = .agg #[.slice ac m.code.length cc, .int .i64 m.entry, .int .i64 m.room, .slice ad m.data.length cd, .slice an m.names.length cn] := rfl
  have HV := hid hV
  rw [hV]
  clear hV
  obtain ⟨w0, hw0, hr0, hb0, hz0⟩ := new_ex w 30 #[.slice ac m.code.length cc, .int .i64 m.entry, .int .i64 m.room, .slice ad m.data.length cd, .slice an m.names.length cn]
  obtain ⟨w1, hw1, hr1, hb1, hz1⟩ := new_ex w0 59 #[.pointer none, .slice none 0 0]
  have HB1 := hid (hb0.trans (hb1.mono (Nat.le_of_lt hz0)))
  have HX1 := hid (hr0.on hb1)
  have HR1 := hid hr1
  have x0 := HX1.out.cell 0
  have x1 := HX1.out.cell 1
  have x2 := HX1.out.cell 2
  have x3 := HX1.out.cell 3
  have x4 := HX1.out.cell 4
  simp at x0 x1 x2 x3 x4
  clear hr0 hb0 hr1 hb1
  go_enter Tryz.func56, Tryz.ntmps56
  go_wp2_with fail
  clear hw0 hw1 x0 x1 x2 x3 x4
  obtain ⟨g1, hg1⟩ : ∃ g, w0.heap.size = g := ⟨_, rfl⟩
  have HG := hid (show w.heap.size < g1 ∧ g1 < w1.heap.size by omega)
  rw [hg1] at HR1
  try rw [hg1]
  clear hg1 hz0 hz1
  rw [← HV.out]
  cases h1 : imageOk m
  · refine (funsIn_no m _ _ _ w1 (HI.out.on HB1.out) HS.out h1).mono ?_
    rintro e w2 ⟨rfl, hb2⟩
    clear h1
    have HB3 := hid (HB1.out.trans (hb2.mono HB1.out.size))
    have HR3 := hid (HR1.out.on hb2)
    have hlt2 := HR3.out.lt
    have z0 := HR3.out.cell 0
    have z1 := HR3.out.cell 1
    have hf := HR3.out.free
    simp at z0 z1
    clear hb2
    go_wp2_with fail
    clear z0 z1 hf
    refine bodyPost_ret (v := .tuple #[.agg #[.pointer none, .slice none 0 0], .bool false]) ?_ rfl ?_
    · first
        | exact res_cell_tmp Tryz.results56 _ _ g1 #[.pointer none, .slice none 0 0] _ rfl (((HR3.out.set 0 (.pointer none)).set 1 (.slice none 0 0)).alloc (.cells #[.pointer none, .slice none 0 0] 59)) Tryz.underlying59 size_funs
        | exact res_cell_tmp Tryz.results56 _ _ g1 #[.pointer none, .slice none 0 0] _ rfl (((HR3.out.alloc (.cells #[.pointer none, .slice none 0 0] 59)).set 0 (.pointer none)).set 1 (.slice none 0 0)) Tryz.underlying59 size_funs
    have hg := HG.out
    first
      | exact ⟨rfl, ((HB3.out.setCell (p := ⟨g1, 0, none⟩) (by simp only; omega) _).setCell (p := ⟨g1, 1, none⟩) (by simp only; omega) _).alloc (by simp [World.setCell]; exact HB3.out.size) _⟩
      | exact ⟨rfl, ((HB3.out.alloc HB3.out.size _).setCell (p := ⟨g1, 0, none⟩) (by simp only; omega) _).setCell (p := ⟨g1, 1, none⟩) (by simp only; omega) _⟩
  · have hx : x ∉ funsL m := fun hm => by have h := HF.out; unfold isFunP at h; rw [h1, decide_eq_true hm] at h; cases h
    have HX := hid hx
    have hfl := funsL_len m
    have hl2 := (imageOk_bd h1).c1
    refine (funsIn_yes m _ _ _ w1 (HI.out.on HB1.out) HS.out HCap.out h1).mono ?_
    rintro e w2 ⟨gw, gm, ms, vl, rfl, _, _, _, _, hown, hb2, _, _⟩
    obtain ⟨fl, hfs⟩ : ∃ l, funsL m = l := ⟨_, rfl⟩
    rw [hfs] at hown hfl
    have HFl := hid hfs
    obtain ⟨sl, cl, rfl⟩ := own_slice hown
    clear h1 hx hfs
    obtain ⟨w3, hw3, hr3, hb3, _⟩ := new_ex w2 59 #[.pointer (some ⟨gw, 0, none⟩), .slice sl fl.length cl]
    have HO3 := hid (own_on hown hb3)
    have HB3 := hid (HB1.out.trans ((hb2.trans (hb3.mono hb2.size)).mono HB1.out.size))
    have HR3 := hid (HR1.out.on (hb2.trans (hb3.mono hb2.size)))
    have y0 := hr3.cell 0
    have y1 := hr3.cell 1
    simp at y0 y1
    clear hb2 hb3 hown hr3
    go_wp2_with fail
    refine (contains_c fl _ x w3 (.of_own HO3.out) (by omega)).mono ?_
    rintro e w4 ⟨rfl, rfl⟩
    rw [decide_eq_false (by rw [← HFl.out]; exact HX.out)]
    have z0 := HR3.out.cell 0
    have z1 := HR3.out.cell 1
    have hf := HR3.out.free
    simp at z0 z1
    clear hw3
    go_wp2_with fail
    clear z0 z1 hf
    refine bodyPost_ret (v := .tuple #[.agg #[.pointer none, .slice none 0 0], .bool false]) ?_ rfl ?_
    · exact res_cell_tmp Tryz.results56 _ _ g1 #[.pointer none, .slice none 0 0] _ rfl ((HR3.out.set 0 (.pointer none)).set 1 (.slice none 0 0)) Tryz.underlying59 size_funs
    exact ⟨rfl, (HB3.out.setCell (p := ⟨g1, 0, none⟩) (by have := HG.out; simp only; omega) _).setCell (p := ⟨g1, 1, none⟩) (by have := HG.out; simp only; omega) _⟩
def FwYes (m : Img) (vc : Value) (w : World) (e : Ending) (w' : World) : Prop :=
  ∃ (gw gm : Nat) (ms : List Nat) (vl : Value), e = .returned (.tuple #[.agg #[.pointer (some ⟨gw, 0, none⟩), vl], .bool true]) ∧ Row w' gw 88 #[vc, .map (some gm), .bool (lostIn m.code ms)] ∧ MapAt w' gm m.code (insOf m.code ms) ∧ (∀ p, p ∈ ms ↔ Rc (Gw m.code) [m.entry] p) ∧ (∃ s c, vl = .slice s (funsL m).length c) ∧ Below w.heap.size w w'
set_option maxRecDepth 100000 in
set_option maxHeartbeats 4000000 in
theorem funsWith_yes (m : Img) (vc vd vn : Value) (x : Int) (w : World) (h : ICells w vc vd vn m) (hs : Sm m) (hcc : ∀ a n c, vc = .slice a n c → n ≤ c) (h1 : imageOk m = true) (hx : x ∈ funsL m) :
    Calls Tryz.prog 56 #[imgVal vc vd vn m, .int .i64 x] w (FwYes m vc w) := by
  obtain ⟨ac, cc, rfl⟩ := rd_slice h.c
  obtain ⟨ad, cd, rfl⟩ := rd_slice h.d
  obtain ⟨an, cn, rfl⟩ := nrd_slice h.n
  have HI := hid h
  have HS := hid hs
  have HCap := hid hcc
  have H1 := hid h1
  have HX := hid hx
  have hfl := funsL_len m
  have hl2 := (imageOk_bd h1).c1
  clear h hs hcc h1 hx
  have hV : imgVal (.slice ac m.code.length cc) (.slice ad m.data.length cd) (.slice an m.names.length cn) m = .agg #[.slice ac m.code.length cc, .int .i64 m.entry, .int .i64 m.room, .slice ad m.data.length cd, .slice an m.names.length cn] := rfl
  have HV := hid hV
  rw [hV]
  clear hV
  obtain ⟨w0, hw0, hr0, hb0, hz0⟩ := new_ex w 30 #[.slice ac m.code.length cc, .int .i64 m.entry, .int .i64 m.room, .slice ad m.data.length cd, .slice an m.names.length cn]
  obtain ⟨w1, hw1, hr1, hb1, hz1⟩ := new_ex w0 59 #[.pointer none, .slice none 0 0]
  have HB1 := hid (hb0.trans (hb1.mono (Nat.le_of_lt hz0)))
  have HX1 := hid (hr0.on hb1)
  have HR1 := hid hr1
  have x0 := HX1.out.cell 0
  have x1 := HX1.out.cell 1
  have x2 := HX1.out.cell 2
  have x3 := HX1.out.cell 3
  have x4 := HX1.out.cell 4
  simp at x0 x1 x2 x3 x4
  clear hr0 hb0 hr1 hb1
  go_enter Tryz.func56, Tryz.ntmps56
  go_wp2_with fail
  clear hw0 hw1 x0 x1 x2 x3 x4
  obtain ⟨g1, hg1⟩ : ∃ g, w0.heap.size = g := ⟨_, rfl⟩
  have HG := hid (show w.heap.size < g1 ∧ g1 < w1.heap.size by omega)
  rw [hg1] at HR1
  try rw [hg1]
  clear hg1 hz0 hz1
  rw [← HV.out]
  refine (funsIn_yes m _ _ _ w1 (HI.out.on HB1.out) HS.out HCap.out H1.out).mono ?_
  rintro e w2 ⟨gw, gm, ms, vl, rfl, hrow, hmap, hmem, hnd, hown, hb2, _, _⟩
  obtain ⟨fl, hfs⟩ : ∃ l, funsL m = l := ⟨_, rfl⟩
  rw [hfs] at hown hfl
  have HFl := hid hfs
  obtain ⟨sl, cl, rfl⟩ := own_slice hown
  obtain ⟨w3, hw3, hr3, hb3, _⟩ := new_ex w2 59 #[.pointer (some ⟨gw, 0, none⟩), .slice sl fl.length cl]
  have HO3 := hid (own_on hown hb3)
  have HB3 := hid (HB1.out.trans ((hb2.trans (hb3.mono hb2.size)).mono HB1.out.size))
  have HR3 := hid (HR1.out.on (hb2.trans (hb3.mono hb2.size)))
  have HRow := hid (hrow.on hb3)
  have HMap := hid (hmap.on hb3)
  have HMem := hid hmem
  have y0 := hr3.cell 0
  have y1 := hr3.cell 1
  simp at y0 y1
  clear hb2 hb3 hown hr3 hrow hmap hmem hnd hfs
  go_wp2_with fail
  refine (contains_c fl _ x w3 (.of_own HO3.out) (by omega)).mono ?_
  rintro e w4 ⟨rfl, rfl⟩
  rw [decide_eq_true (by rw [← HFl.out]; exact HX.out)]
  have z0 := HR3.out.cell 0
  have z1 := HR3.out.cell 1
  have hf := HR3.out.free
  simp at z0 z1
  clear hw3
  go_wp2_with fail
  clear z0 z1 hf y0 y1
  refine bodyPost_ret (v := .tuple #[.agg #[.pointer (some ⟨gw, 0, none⟩), .slice sl fl.length cl], .bool true]) ?_ rfl ?_
  · exact res_cell_tmp Tryz.results56 _ _ g1 #[.pointer (some ⟨gw, 0, none⟩), .slice sl fl.length cl] _ rfl ((HR3.out.set 0 (.pointer (some ⟨gw, 0, none⟩))).set 1 (.slice sl fl.length cl)) Tryz.underlying59 size_funs
  have hne : gw ≠ g1 := fun h => by
    have h1 := HRow.out
    rw [h] at h1
    have := h1.symm.trans HR3.out
    simp at this
  have hnm : gm ≠ g1 := fun h => by
    have h1 := HMap.out
    unfold MapAt at h1
    rw [h] at h1
    have := h1.symm.trans HR3.out
    simp at this
  exact ⟨gw, gm, ms, _, rfl, (HRow.out.far hne _).far hne _, (HMap.out.set (by simpa using hnm) _).set (by simpa using hnm) _, HMem.out, ⟨sl, cl, by rw [HFl.out]⟩, (HB3.out.setCell (p := ⟨g1, 0, none⟩) (by have := HG.out; simp only; omega) _).setCell (p := ⟨g1, 1, none⟩) (by have := HG.out; simp only; omega) _⟩
set_option maxRecDepth 100000 in
set_option maxHeartbeats 2000000 in
theorem isFun_c (m : Img) (vc vd vn : Value) (x : Int) (w : World) (h : ICells w vc vd vn m) (hs : Sm m) :
    Calls Tryz.prog 55 #[imgVal vc vd vn m, .int .i64 x] w fun e w' => e = .returned (.bool (isFunP m x)) ∧ Below w.heap.size w w' := by
  obtain ⟨ac, cc, rfl⟩ := rd_slice h.c
  obtain ⟨ad, cd, rfl⟩ := rd_slice h.d
  obtain ⟨an, cn, rfl⟩ := nrd_slice h.n
  have HI := hid h
  have HS := hid hs
  clear h hs
  obtain ⟨o, ho⟩ : ∃ o, isFunP m x = o := ⟨_, rfl⟩
  have HQ := hid ho
  rw [ho]
  clear ho
  have hV : imgVal (.slice ac m.code.length cc) (.slice ad m.data.length cd) (.slice an m.names.length cn) m = .agg #[.slice ac m.code.length cc, .int .i64 m.entry, .int .i64 m.room, .slice ad m.data.length cd, .slice an m.names.length cn] := rfl
  have HV := hid hV
  rw [hV]
  clear hV
  have HB1 := hid ((Below.refl w.heap.size w).alloc (Nat.le_refl _) (.cells #[.slice ac m.code.length cc, .int .i64 m.entry, .int .i64 m.room, .slice ad m.data.length cd, .slice an m.names.length cn] 30))
  have HX1 := hid (Row.new w 30 #[.slice ac m.code.length cc, .int .i64 m.entry, .int .i64 m.room, .slice ad m.data.length cd, .slice an m.names.length cn])
  have hw01 : w.heap.size < (w.alloc (.cells #[.slice ac m.code.length cc, .int .i64 m.entry, .int .i64 m.room, .slice ad m.data.length cd, .slice an m.names.length cn] 30)).heap.size := by simp
  go_enter Tryz.func55, Tryz.ntmps55
  go_wp2_with fail
  generalize w.alloc (.cells #[.slice ac m.code.length cc, .int .i64 m.entry, .int .i64 m.room, .slice ad m.data.length cd, .slice an m.names.length cn] 30) = w1 at HB1 HX1 hw01 ⊢
  rw [← HV.out]
  refine (validImage_c m _ _ _ w1 (HI.out.on HB1.out) HS.out).mono ?_
  rintro e w2 ⟨rfl, hb2⟩
  have HB2 := hid (HB1.out.trans (hb2.mono HB1.out.size))
  have HX2 := hid (HX1.out.on hb2)
  have hz2 := hb2.size
  clear hb2
  cases h1 : imageOk m
  · obtain rfl : o = false := by rw [← HQ.out, isFunP, h1]; rfl
    clear h1
    go_wp2_with fail
    go_ret
    exact ⟨rfl, HB2.out⟩
  · have HO := hid (show o = decide (x ∈ funsL m) by rw [← HQ.out, isFunP, h1]; rfl)
    have H1 := hid h1
    have hfl := funsL_len m
    have hl2 := (imageOk_bd h1).c1
    have x0 := HX2.out.cell 0
    have x1 := HX2.out.cell 1
    have x2 := HX2.out.cell 2
    have x3 := HX2.out.cell 3
    have x4 := HX2.out.cell 4
    simp at x0 x1 x2 x3 x4
    have hw02 : w.heap.size < w2.heap.size := by omega
    clear h1
    go_wp2_with fail
    rw [← HV.out]
    refine (sFuns_c m _ _ _ w2 (HI.out.on HB2.out) H1.out).mono ?_
    rintro e w3 ⟨v3, rfl, hown, hb3⟩
    have HB3 := hid (HB2.out.trans (hb3.mono HB2.out.size))
    obtain ⟨fl, hfs⟩ : ∃ l, funsL m = l := ⟨_, rfl⟩
    rw [hfs] at hown hfl HO
    have HOw := hid hown
    obtain ⟨s3, c3, rfl⟩ := own_slice hown
    clear hb3 hown hfs
    go_wp2_with fail
    refine (inList_c fl _ x w3 (.of_own HOw.out) (by omega)).mono ?_
    rintro e w4 ⟨rfl, rfl⟩
    rw [← HO.out]
    go_wp2_with fail
    go_ret
    exact ⟨rfl, HB3.out⟩
noncomputable def bodyP (m : Img) (x : Int) : List Int := if isFunP m x = true then reachL m.code [x] false else []
theorem bodyP_len (m : Img) (x : Int) : (bodyP m x).length ≤ 1000000 := by
  unfold bodyP
  split
  · rename_i h
    have h1 : imageOk m = true := by unfold isFunP at h; exact (Bool.and_eq_true_iff.1 h).1
    have := (imageOk_bd h1).c1
    have := reachL_len m.code [x] false
    omega
  · simp
set_option maxRecDepth 100000 in
set_option maxHeartbeats 4000000 in
theorem bodyOf_c (m : Img) (vc vd vn : Value) (x : Int) (w : World) (h : ICells w vc vd vn m) (hs : Sm m) (hcc : ∀ a n c, vc = .slice a n c → n ≤ c) :
    Calls Tryz.prog 25 #[imgVal vc vd vn m, .int .i64 x] w (WaysPost2 (bodyP m x) w) := by
  obtain ⟨ac, cc, rfl⟩ := rd_slice h.c
  obtain ⟨ad, cd, rfl⟩ := rd_slice h.d
  obtain ⟨an, cn, rfl⟩ := nrd_slice h.n
  have HI := hid h
  have HS := hid hs
  have HCap := hid hcc
  clear h hs hcc
  obtain ⟨o, ho⟩ : ∃ o, bodyP m x = o := ⟨_, rfl⟩
  have HQ := hid ho
  rw [ho]
  clear ho
  have hV : imgVal (.slice ac m.code.length cc) (.slice ad m.data.length cd) (.slice an m.names.length cn) m = .agg #[.slice ac m.code.length cc, .int .i64 m.entry, .int .i64 m.room, .slice ad m.data.length cd, .slice an m.names.length cn] := rfl
  have HV := hid hV
  rw [hV]
  clear hV
  have HB1 := hid ((Below.refl w.heap.size w).alloc (Nat.le_refl _) (.cells #[.slice ac m.code.length cc, .int .i64 m.entry, .int .i64 m.room, .slice ad m.data.length cd, .slice an m.names.length cn] 30))
  have HX1 := hid (Row.new w 30 #[.slice ac m.code.length cc, .int .i64 m.entry, .int .i64 m.room, .slice ad m.data.length cd, .slice an m.names.length cn])
  have hw01 : w.heap.size < (w.alloc (.cells #[.slice ac m.code.length cc, .int .i64 m.entry, .int .i64 m.room, .slice ad m.data.length cd, .slice an m.names.length cn] 30)).heap.size := by simp
  go_enter Tryz.func25, Tryz.ntmps25
  go_wp2_with fail
  generalize w.alloc (.cells #[.slice ac m.code.length cc, .int .i64 m.entry, .int .i64 m.room, .slice ad m.data.length cd, .slice an m.names.length cn] 30) = w1 at HB1 HX1 hw01 ⊢
  rw [← HV.out]
  cases hf : isFunP m x
  · obtain rfl : o = [] := by rw [← HQ.out, bodyP, hf]; rfl
    refine (funsWith_no m _ _ _ x w1 (HI.out.on HB1.out) HS.out HCap.out hf).mono ?_
    rintro e w2 ⟨rfl, hb2⟩
    have HB2 := hid (HB1.out.trans (hb2.mono HB1.out.size))
    clear hb2 hf
    go_wp2_with fail
    go_ret
    exact ⟨_, rfl, World.ownsRow_nil _ _ _ _, HB2.out.alloc HB2.out.size _⟩
  · have HO := hid (show o = reachL m.code [x] false by rw [← HQ.out, bodyP, hf]; rfl)
    have h1 : imageOk m = true := by unfold isFunP at hf; exact (Bool.and_eq_true_iff.1 hf).1
    have hx : x ∈ funsL m := by unfold isFunP at hf; exact of_decide_eq_true (Bool.and_eq_true_iff.1 hf).2
    have HBd := hid (imageOk_bd h1)
    have hl2 := HBd.out.c1
    obtain ⟨p, rfl, hpl, hrc⟩ := funs_rc h1 hx
    have HRc := hid hrc
    refine (funsWith_yes m _ _ _ p w1 (HI.out.on HB1.out) HS.out HCap.out h1 hx).mono ?_
    rintro e w2 ⟨gw, gm, ms, vl, rfl, hrow, hmap, hmem, ⟨sl, cl, rfl⟩, hb2⟩
    obtain ⟨fn, hfn⟩ : ∃ k, (funsL m).length = k := ⟨_, rfl⟩
    rw [hfn]
    obtain ⟨w3, hw3, hr3, hb3, hz3⟩ := new_ex w2 59 #[.pointer (some ⟨gw, 0, none⟩), .slice sl fn cl]
    have HB3 := hid (HB1.out.trans ((hb2.trans (hb3.mono hb2.size)).mono HB1.out.size))
    have HRow := hid (hrow.on hb3)
    have HMap := hid (hmap.on hb3)
    have HMem := hid hmem
    have HR3 := hid hr3
    have hcl : m.code.length ≤ cc := HCap.out _ _ _ rfl
    have HIn := hid (show ∀ q, Rc (Gm m.code false) [(p : Int)] q → (q ∈ insOf m.code ms ↔ (readP m.code q).isSome = true) from fun q hq => by
      rw [mem_insOf]
      exact ⟨fun h => h.2, fun h => ⟨(gw_gm hmem q).2 (rc_sub hrc hq), h⟩⟩)
    clear hf h1 hx hrc hrow hmap hmem hb2 hb3 hr3 hfn
    have y0 := HR3.out.cell 0
    have y1 := HR3.out.cell 1
    simp at y0 y1
    go_wp2_with fail
    clear hw3
    refine (body_c m.code ac cc _ gw gm p (insOf m.code ms) w3 (HI.out.on HB3.out).c hcl HBd.out.cb hl2 (by omega) HRow.out HMap.out HIn.out).mono ?_
    rintro e w4 ⟨v4, rfl, hown, hb4⟩
    rw [← HO.out] at hown
    have HOw := hid (own_mono hown HB3.out.size)
    have HB4 := hid (HB3.out.trans (hb4.mono HB3.out.size))
    obtain ⟨s4, c4, rfl⟩ := own_slice hown
    clear hown hb4
    go_wp2_with fail
    go_ret
    exact ⟨_, rfl, HOw.out, HB4.out⟩
set_option maxRecDepth 100000 in
set_option maxHeartbeats 4000000 in
theorem specBodyOf_c (m : Img) (vc vd vn : Value) (x : Int) (w : World) (h : ICells w vc vd vn m) (hs : Sm m) :
    Calls Tryz.prog 24 #[imgVal vc vd vn m, .int .i64 x] w (WaysPost2 (bodyP m x) w) := by
  obtain ⟨ac, cc, rfl⟩ := rd_slice h.c
  obtain ⟨ad, cd, rfl⟩ := rd_slice h.d
  obtain ⟨an, cn, rfl⟩ := nrd_slice h.n
  have HI := hid h
  have HS := hid hs
  clear h hs
  obtain ⟨o, ho⟩ : ∃ o, bodyP m x = o := ⟨_, rfl⟩
  have HQ := hid ho
  rw [ho]
  clear ho
  have hV : imgVal (.slice ac m.code.length cc) (.slice ad m.data.length cd) (.slice an m.names.length cn) m = .agg #[.slice ac m.code.length cc, .int .i64 m.entry, .int .i64 m.room, .slice ad m.data.length cd, .slice an m.names.length cn] := rfl
  have HV := hid hV
  rw [hV]
  clear hV
  have HB1 := hid ((Below.refl w.heap.size w).alloc (Nat.le_refl _) (.cells #[.slice ac m.code.length cc, .int .i64 m.entry, .int .i64 m.room, .slice ad m.data.length cd, .slice an m.names.length cn] 30))
  have HX1 := hid (Row.new w 30 #[.slice ac m.code.length cc, .int .i64 m.entry, .int .i64 m.room, .slice ad m.data.length cd, .slice an m.names.length cn])
  have hw01 : w.heap.size < (w.alloc (.cells #[.slice ac m.code.length cc, .int .i64 m.entry, .int .i64 m.room, .slice ad m.data.length cd, .slice an m.names.length cn] 30)).heap.size := by simp
  go_enter Tryz.func24, Tryz.ntmps24
  go_wp2_with fail
  generalize w.alloc (.cells #[.slice ac m.code.length cc, .int .i64 m.entry, .int .i64 m.room, .slice ad m.data.length cd, .slice an m.names.length cn] 30) = w1 at HB1 HX1 hw01 ⊢
  rw [← HV.out]
  refine (isFun_c m _ _ _ x w1 (HI.out.on HB1.out) HS.out).mono ?_
  rintro e w2 ⟨rfl, hb2⟩
  have HB2 := hid (HB1.out.trans (hb2.mono HB1.out.size))
  have HX2 := hid (HX1.out.on hb2)
  have hz2 := hb2.size
  clear hb2
  cases hf : isFunP m x
  · obtain rfl : o = [] := by rw [← HQ.out, bodyP, hf]; rfl
    clear hf
    go_wp2_with fail
    go_ret
    exact ⟨_, rfl, World.ownsRow_nil _ _ _ _, HB2.out⟩
  · have HO := hid (show o = reachL m.code [x] false by rw [← HQ.out, bodyP, hf]; rfl)
    have h1 : imageOk m = true := by unfold isFunP at hf; exact (Bool.and_eq_true_iff.1 hf).1
    have hx : x ∈ funsL m := by unfold isFunP at hf; exact of_decide_eq_true (Bool.and_eq_true_iff.1 hf).2
    have HBd := hid (imageOk_bd h1)
    have hl2 := HBd.out.c1
    obtain ⟨p, rfl, hpl, _⟩ := funs_rc h1 hx
    have x0 := HX2.out.cell 0
    simp at x0
    have hw02 : w.heap.size < w2.heap.size := by omega
    clear hf h1 hx
    have HB3 := hid (HB2.out.alloc HB2.out.size (.cells #[.int .i64 p] 3))
    have HRs := hid (Rd.of_own (own_lit w2 [(p : Int)] #[.int .i64 p] rfl (by simp) 1 rfl))
    go_wp2_with fail
    refine (walk_c m.code [(p : Int)] false ac _ cc _ _ (HI.out.on HB3.out).c HRs.out HBd.out.cb hl2 (by omega) (fun q hq => by obtain rfl : q = (p : Int) := (by simpa using hq); omega) (by simp)).mono ?_
    rintro e w3 ⟨v, ms, rfl, hown, hms, hb3⟩
    have HB4 := hid (HB3.out.trans (hb3.mono HB3.out.size))
    rw [trues_reach hms, ← HO.out] at hown
    have HOw := hid (own_mono hown HB3.out.size)
    obtain ⟨s, c, rfl⟩ := own_slice hown
    clear hown hms hb3
    go_wp2_with fail
    go_ret
    exact ⟨_, rfl, HOw.out, HB4.out⟩
set_option maxRecDepth 100000 in
set_option maxHeartbeats 2000000 in
theorem wcalledIn_c (code : List Int) (ac : Option Addr) (cc : Nat) (lb : Value) (gw gm at_ : Nat) (ms0 : List Nat) (w : World) (hr : Rd w (.slice ac code.length cc) code) (hcap : code.length ≤ cc) (hby : code.all isByte = true) (hlen : code.length ≤ 2000) (hat : at_ ≤ 2000)
    (hw : Row w gw 88 #[.slice ac code.length cc, .map (some gm), lb]) (hm : MapAt w gm code ms0) (hms0 : ∀ p, Rc (Gm code false) [(at_ : Int)] p → (p ∈ ms0 ↔ (readP code p).isSome = true)) (hms1 : ∀ p ∈ ms0, (readP code p).isSome = true) :
    Calls Tryz.prog 59 #[.pointer (some ⟨gw, 0, none⟩), .int .i64 at_] w (WaysPost2 (calledL code (reachL code [(at_ : Int)] false)) w) := by
  have HW := hid hw
  have HM := hid hm
  have HR := hid hr
  have HBy := hid hby
  have HMs := hid hms0
  have HM1 := hid hms1
  clear hr hby hw hm hms0 hms1
  go_enter Tryz.func59, Tryz.ntmps59
  go_wp2_with fail
  refine (body_c code ac cc lb gw gm at_ ms0 w HR.out hcap HBy.out hlen hat HW.out HM.out HMs.out).mono ?_
  rintro e w1 ⟨v1, rfl, hown, hb1⟩
  have hpl : ∀ x ∈ reachL code [(at_ : Int)] false, ∃ p : Nat, x = p ∧ p ∈ ms0 := fun x hx => by
    obtain ⟨p, e, _, h1, h2⟩ := reachL_mem hx
    exact ⟨p, e, (HMs.out p h1).2 h2⟩
  have hll := reachL_len code [(at_ : Int)] false
  obtain ⟨bl, hbl⟩ : ∃ l, reachL code [(at_ : Int)] false = l := ⟨_, rfl⟩
  rw [hbl] at hown hpl hll
  have HBl := hid hbl
  have HPl := hid hpl
  have HOw := hid hown
  have HB1 := hid hb1
  have HW1 := hid (HW.out.on hb1)
  have HMp1 := hid (HM.out.on hb1)
  obtain ⟨s1, c1, rfl⟩ := own_slice hown
  clear hown hb1 hbl hpl
  go_wp2_with fail
  refine (calledAt_c code ac cc lb gw gm ms0 bl _ w1 HW1.out HMp1.out (.of_own HOw.out) HPl.out HM1.out (by omega)).mono ?_
  rintro e w2 ⟨v2, rfl, hown, hb2⟩
  obtain ⟨cl, hcl⟩ : ∃ l, calledL code bl = l := ⟨_, rfl⟩
  rw [hcl] at hown
  have HCl := hid hcl
  have HO2 := hid (own_mono hown HB1.out.size)
  have HB2 := hid (HB1.out.trans (hb2.mono HB1.out.size))
  obtain ⟨s2, c2, rfl⟩ := own_slice hown
  clear hown hb2 hcl
  go_wp2_with fail
  go_ret
  rw [HBl.out, HCl.out]
  exact ⟨_, rfl, HO2.out, HB2.out⟩
noncomputable def calledP (m : Img) (x : Int) : List Int := if isFunP m x = true then calledL m.code (reachL m.code [x] false) else []
theorem calledP_len (m : Img) (x : Int) : (calledP m x).length ≤ 1000000 := by
  unfold calledP
  split
  · rename_i h
    have h1 : imageOk m = true := by unfold isFunP at h; exact (Bool.and_eq_true_iff.1 h).1
    have := (imageOk_bd h1).c1
    have := calledL_len m.code (reachL m.code [x] false)
    omega
  · simp
set_option maxRecDepth 100000 in
set_option maxHeartbeats 4000000 in
theorem calledIn_c (m : Img) (vc vd vn : Value) (x : Int) (w : World) (h : ICells w vc vd vn m) (hs : Sm m) (hcc : ∀ a n c, vc = .slice a n c → n ≤ c) :
    Calls Tryz.prog 27 #[imgVal vc vd vn m, .int .i64 x] w (WaysPost2 (calledP m x) w) := by
  obtain ⟨ac, cc, rfl⟩ := rd_slice h.c
  obtain ⟨ad, cd, rfl⟩ := rd_slice h.d
  obtain ⟨an, cn, rfl⟩ := nrd_slice h.n
  have HI := hid h
  have HS := hid hs
  have HCap := hid hcc
  clear h hs hcc
  obtain ⟨o, ho⟩ : ∃ o, calledP m x = o := ⟨_, rfl⟩
  have HQ := hid ho
  rw [ho]
  clear ho
  have hV : imgVal (.slice ac m.code.length cc) (.slice ad m.data.length cd) (.slice an m.names.length cn) m = .agg #[.slice ac m.code.length cc, .int .i64 m.entry, .int .i64 m.room, .slice ad m.data.length cd, .slice an m.names.length cn] := rfl
  have HV := hid hV
  rw [hV]
  clear hV
  have HB1 := hid ((Below.refl w.heap.size w).alloc (Nat.le_refl _) (.cells #[.slice ac m.code.length cc, .int .i64 m.entry, .int .i64 m.room, .slice ad m.data.length cd, .slice an m.names.length cn] 30))
  have HX1 := hid (Row.new w 30 #[.slice ac m.code.length cc, .int .i64 m.entry, .int .i64 m.room, .slice ad m.data.length cd, .slice an m.names.length cn])
  have hw01 : w.heap.size < (w.alloc (.cells #[.slice ac m.code.length cc, .int .i64 m.entry, .int .i64 m.room, .slice ad m.data.length cd, .slice an m.names.length cn] 30)).heap.size := by simp
  go_enter Tryz.func27, Tryz.ntmps27
  go_wp2_with fail
  generalize w.alloc (.cells #[.slice ac m.code.length cc, .int .i64 m.entry, .int .i64 m.room, .slice ad m.data.length cd, .slice an m.names.length cn] 30) = w1 at HB1 HX1 hw01 ⊢
  rw [← HV.out]
  cases hf : isFunP m x
  · obtain rfl : o = [] := by rw [← HQ.out, calledP, hf]; rfl
    refine (funsWith_no m _ _ _ x w1 (HI.out.on HB1.out) HS.out HCap.out hf).mono ?_
    rintro e w2 ⟨rfl, hb2⟩
    have HB2 := hid (HB1.out.trans (hb2.mono HB1.out.size))
    clear hb2 hf
    go_wp2_with fail
    go_ret
    exact ⟨_, rfl, World.ownsRow_nil _ _ _ _, HB2.out.alloc HB2.out.size _⟩
  · have HO := hid (show o = calledL m.code (reachL m.code [x] false) by rw [← HQ.out, calledP, hf]; rfl)
    have h1 : imageOk m = true := by unfold isFunP at hf; exact (Bool.and_eq_true_iff.1 hf).1
    have hx : x ∈ funsL m := by unfold isFunP at hf; exact of_decide_eq_true (Bool.and_eq_true_iff.1 hf).2
    have HBd := hid (imageOk_bd h1)
    have hl2 := HBd.out.c1
    obtain ⟨p, rfl, hpl, hrc⟩ := funs_rc h1 hx
    have HRc := hid hrc
    refine (funsWith_yes m _ _ _ p w1 (HI.out.on HB1.out) HS.out HCap.out h1 hx).mono ?_
    rintro e w2 ⟨gw, gm, ms, vl, rfl, hrow, hmap, hmem, ⟨sl, cl, rfl⟩, hb2⟩
    obtain ⟨fn, hfn⟩ : ∃ k, (funsL m).length = k := ⟨_, rfl⟩
    rw [hfn]
    obtain ⟨w3, hw3, hr3, hb3, hz3⟩ := new_ex w2 59 #[.pointer (some ⟨gw, 0, none⟩), .slice sl fn cl]
    have HB3 := hid (HB1.out.trans ((hb2.trans (hb3.mono hb2.size)).mono HB1.out.size))
    have HRow := hid (hrow.on hb3)
    have HMap := hid (hmap.on hb3)
    have HMem := hid hmem
    have HR3 := hid hr3
    have hcl : m.code.length ≤ cc := HCap.out _ _ _ rfl
    have HIn := hid (show ∀ q, Rc (Gm m.code false) [(p : Int)] q → (q ∈ insOf m.code ms ↔ (readP m.code q).isSome = true) from fun q hq => by
      rw [mem_insOf]
      exact ⟨fun h => h.2, fun h => ⟨(gw_gm hmem q).2 (rc_sub hrc hq), h⟩⟩)
    clear hf h1 hx hrc hrow hmap hmem hb2 hb3 hr3 hfn
    have y0 := HR3.out.cell 0
    have y1 := HR3.out.cell 1
    simp at y0 y1
    go_wp2_with fail
    clear hw3
    refine (wcalledIn_c m.code ac cc _ gw gm p (insOf m.code ms) w3 (HI.out.on HB3.out).c hcl HBd.out.cb hl2 (by omega) HRow.out HMap.out HIn.out (fun q hq => (mem_insOf.1 hq).2)).mono ?_
    rintro e w4 ⟨v4, rfl, hown, hb4⟩
    rw [← HO.out] at hown
    have HOw := hid (own_mono hown HB3.out.size)
    have HB4 := hid (HB3.out.trans (hb4.mono HB3.out.size))
    obtain ⟨s4, c4, rfl⟩ := own_slice hown
    clear hown hb4
    go_wp2_with fail
    go_ret
    exact ⟨_, rfl, HOw.out, HB4.out⟩
set_option maxRecDepth 100000 in
set_option maxHeartbeats 4000000 in
theorem specCalledIn_c (m : Img) (vc vd vn : Value) (x : Int) (w : World) (h : ICells w vc vd vn m) (hs : Sm m) :
    Calls Tryz.prog 26 #[imgVal vc vd vn m, .int .i64 x] w (WaysPost2 (calledP m x) w) := by
  obtain ⟨ac, cc, rfl⟩ := rd_slice h.c
  obtain ⟨ad, cd, rfl⟩ := rd_slice h.d
  obtain ⟨an, cn, rfl⟩ := nrd_slice h.n
  have HI := hid h
  have HS := hid hs
  clear h hs
  obtain ⟨o, ho⟩ : ∃ o, calledP m x = o := ⟨_, rfl⟩
  have HQ := hid ho
  rw [ho]
  clear ho
  have hV : imgVal (.slice ac m.code.length cc) (.slice ad m.data.length cd) (.slice an m.names.length cn) m = .agg #[.slice ac m.code.length cc, .int .i64 m.entry, .int .i64 m.room, .slice ad m.data.length cd, .slice an m.names.length cn] := rfl
  have HV := hid hV
  rw [hV]
  clear hV
  have HB1 := hid ((Below.refl w.heap.size w).alloc (Nat.le_refl _) (.cells #[.slice ac m.code.length cc, .int .i64 m.entry, .int .i64 m.room, .slice ad m.data.length cd, .slice an m.names.length cn] 30))
  have HX1 := hid (Row.new w 30 #[.slice ac m.code.length cc, .int .i64 m.entry, .int .i64 m.room, .slice ad m.data.length cd, .slice an m.names.length cn])
  have hw01 : w.heap.size < (w.alloc (.cells #[.slice ac m.code.length cc, .int .i64 m.entry, .int .i64 m.room, .slice ad m.data.length cd, .slice an m.names.length cn] 30)).heap.size := by simp
  go_enter Tryz.func26, Tryz.ntmps26
  go_wp2_with fail
  generalize w.alloc (.cells #[.slice ac m.code.length cc, .int .i64 m.entry, .int .i64 m.room, .slice ad m.data.length cd, .slice an m.names.length cn] 30) = w1 at HB1 HX1 hw01 ⊢
  rw [← HV.out]
  refine (isFun_c m _ _ _ x w1 (HI.out.on HB1.out) HS.out).mono ?_
  rintro e w2 ⟨rfl, hb2⟩
  have HB2 := hid (HB1.out.trans (hb2.mono HB1.out.size))
  have HX2 := hid (HX1.out.on hb2)
  have hz2 := hb2.size
  clear hb2
  cases hf : isFunP m x
  · obtain rfl : o = [] := by rw [← HQ.out, calledP, hf]; rfl
    clear hf
    go_wp2_with fail
    go_ret
    exact ⟨_, rfl, World.ownsRow_nil _ _ _ _, HB2.out⟩
  · have HO := hid (show o = calledL m.code (reachL m.code [x] false) by rw [← HQ.out, calledP, hf]; rfl)
    have h1 : imageOk m = true := by unfold isFunP at hf; exact (Bool.and_eq_true_iff.1 hf).1
    have hx : x ∈ funsL m := by unfold isFunP at hf; exact of_decide_eq_true (Bool.and_eq_true_iff.1 hf).2
    have HBd := hid (imageOk_bd h1)
    have hl2 := HBd.out.c1
    obtain ⟨p, rfl, hpl, _⟩ := funs_rc h1 hx
    have x0 := HX2.out.cell 0
    simp at x0
    have hw02 : w.heap.size < w2.heap.size := by omega
    clear hf h1 hx
    go_wp2_with fail
    refine (sCalledIn_c m.code ac cc p w2 (HI.out.on HB2.out).c HBd.out.cb hl2 (by omega) (by omega) (by omega)).mono ?_
    rintro e w3 ⟨v, rfl, hown, hb3⟩
    have HB4 := hid (HB2.out.trans (hb3.mono HB2.out.size))
    rw [← HO.out] at hown
    have HOw := hid (own_mono hown HB2.out.size)
    obtain ⟨s, c, rfl⟩ := own_slice hown
    clear hown hb3
    go_wp2_with fail
    go_ret
    exact ⟨_, rfl, HOw.out, HB4.out⟩
end Go.Proofs.YtihhpgklpichgaaGreat.Wk
/- CallsItself of the program and of the model; its exact law: the walk. -/
namespace Go.Proofs.YtihhpgklpichgaaGreat.Wk
open Go.RowKit Pl Ft Mm In C2 Im Sw

/-- What a function calls itself. -/
noncomputable def Gc (code : List Int) (p : Nat) : List Int := calledL code (reachL code [(p : Int)] false)
theorem gc_bd {code : List Int} {p : Nat} {q : Int} (h : q ∈ Gc code p) : 0 ≤ q ∧ q < code.length := by
  obtain ⟨k, hk, rfl⟩ := List.mem_map.1 h
  have := List.mem_range.1 (List.mem_filter.1 hk).1
  omega
theorem gc_len (code : List Int) (p : Nat) : (Gc code p).length ≤ code.length := calledL_len _ _
theorem truesL_nodup (f : Nat → Bool) (n : Nat) : (truesL f n).Nodup := List.Pairwise.map _ (fun a b hab h => hab (by omega)) ((List.nodup_range (n := n)).filter _)
theorem called_rc {code S : List Int} {p q : Nat} (hp : Rc (Gm code true) S p) (h : (q : Int) ∈ Gc code p) : Rc (Gm code true) S q := by
  obtain ⟨k, hk, e⟩ := List.mem_map.1 h
  have h2 := of_decide_eq_true (List.mem_filter.1 hk).2
  rw [e] at h2
  obtain ⟨y, hy, hc⟩ := List.mem_filterMap.1 h2
  obtain ⟨r, rfl, _, hrc, _⟩ := reachL_mem hy
  unfold callAt at hc
  rw [Int.toNat_natCast] at hc
  refine .step r q (rc_sub hp hrc) ?_
  unfold Gm
  cases hr : readP code r with
  | none => rw [hr] at hc; cases hc
  | some i =>
    rw [hr] at hc
    simp only at hc ⊢
    split at hc
    · rename_i hcc
      have := Option.some.inj hc
      rw [if_pos (by first | exact ⟨rfl, hcc.1⟩ | exact ⟨trivial, hcc.1⟩ | exact hcc.1), List.mem_append]
      exact .inr (by simp [this])
    · cases hc
theorem gc_rc {code S : List Int} {p q : Nat} (hp : Rc (Gm code true) S p) (h : Rc (Gc code) (Gc code p) q) : Rc (Gm code true) S q := by
  induction h with
  | start r hr => exact called_rc hp hr
  | step a b _ hb ih => exact called_rc ih hb
/-- reachedFuns on its way: the first i functions of the list are asked. -/
structure CiRel (code S : List Int) (i : Nat) (L : List Int) : Prop where
  nd : L.Nodup
  bd : ∀ q ∈ L, 0 ≤ q ∧ q < code.length
  ra : ∀ p : Nat, (p : Int) ∈ L → Rc (Gc code) S p
  st : ∀ q ∈ S, q ∈ L
  cl : ∀ j, (h : j < L.length) → j < i → ∀ q ∈ Gc code L[j].toNat, q ∈ L
  le : i ≤ L.length
theorem CiRel.len {code S L : List Int} {i : Nat} (h : CiRel code S i L) : L.length ≤ code.length := by
  have hn : (L.map Int.toNat).Nodup := by
    refine List.pairwise_map.2 (List.Pairwise.imp_of_mem (fun {a b} ha hb hab => ?_) h.nd)
    have := h.bd a ha
    have := h.bd b hb
    omega
  have := rc_nodup_le code.length (L.map Int.toNat) hn (fun x hx => by
    obtain ⟨q, hq, rfl⟩ := List.mem_map.1 hx
    have := h.bd q hq
    omega)
  simpa using this
theorem CiRel.done {code S L : List Int} (h : CiRel code S L.length L) (p : Nat) : (p : Int) ∈ L ↔ Rc (Gc code) S p := by
  constructor
  · exact h.ra p
  · intro hr
    induction hr with
    | start q hq => exact h.st _ hq
    | step a b _ hb ih =>
      obtain ⟨j, hj, e⟩ := List.mem_iff_getElem.1 ih
      exact h.cl j hj hj _ (by rw [e, Int.toNat_natCast]; exact hb)
/-- The function at place i is being asked: the first k of what it calls are in the list. -/
structure CjRel (code S : List Int) (i : Nat) (p : Nat) (k : Nat) (L : List Int) : Prop where
  base : CiRel code S i L
  lt : i < L.length
  at_ : ∀ h : i < L.length, L[i] = (p : Int)
  in_ : ∀ q ∈ (Gc code p).take k, q ∈ L
theorem CjRel.next {code S L : List Int} {i p : Nat} (h : CjRel code S i p (Gc code p).length L) : CiRel code S (i + 1) L :=
  ⟨h.base.nd, h.base.bd, h.base.ra, h.base.st, fun j hj hji q hq => by
    rcases Nat.lt_or_ge j i with h1 | h1
    · exact h.base.cl j hj h1 q hq
    · obtain rfl : j = i := by omega
      rw [h.at_ hj, Int.toNat_natCast] at hq
      exact h.in_ q (by rw [List.take_length]; exact hq), h.lt⟩
theorem CjRel.skip {code S L : List Int} {i p k : Nat} (h : CjRel code S i p k L) (hk : k < (Gc code p).length) (hin : (Gc code p)[k] ∈ L) : CjRel code S i p (k + 1) L :=
  ⟨h.base, h.lt, h.at_, fun q hq => by
    rw [List.take_succ_eq_append_getElem hk] at hq
    rcases List.mem_append.1 hq with h1 | h1
    · exact h.in_ q h1
    · obtain rfl := List.mem_singleton.1 h1
      exact hin⟩
theorem CjRel.add {code S L : List Int} {i p k : Nat} (h : CjRel code S i p k L) (hk : k < (Gc code p).length) (hin : (Gc code p)[k] ∉ L) : CjRel code S i p (k + 1) (L ++ [(Gc code p)[k]]) := by
  have hm : (Gc code p)[k] ∈ Gc code p := List.getElem_mem hk
  have hb := gc_bd hm
  have hpr : Rc (Gc code) S p := h.base.ra p (by rw [← h.at_ h.lt]; exact List.getElem_mem _)
  refine ⟨⟨?_, ?_, ?_, fun q hq => List.mem_append_left _ (h.base.st q hq), ?_, by have := h.base.le; simp; omega⟩, by have := h.lt; simp; omega, fun h2 => ?_, ?_⟩
  · rw [List.nodup_append]
    exact ⟨h.base.nd, by simp, fun a ha b hb e => hin (by
      have := List.mem_singleton.1 hb
      rw [← this, ← e]
      exact ha)⟩
  · intro q hq
    rcases List.mem_append.1 hq with h1 | h1
    · exact h.base.bd q h1
    · rw [List.mem_singleton.1 h1]; exact hb
  · intro q hq
    rcases List.mem_append.1 hq with h1 | h1
    · exact h.base.ra q h1
    · exact .step p q hpr (by rw [List.mem_singleton.1 h1]; exact hm)
  · intro j hj hji q hq
    have hjl : j < L.length := by have := h.lt; omega
    rw [List.getElem_append_left hjl] at hq
    exact List.mem_append_left _ (h.base.cl j hjl hji q hq)
  · rw [List.getElem_append_left h.lt]
    exact h.at_ h.lt
  · intro q hq
    rw [List.take_succ_eq_append_getElem hk] at hq
    rcases List.mem_append.1 hq with h1 | h1
    · exact List.mem_append_left _ (h.in_ q h1)
    · exact List.mem_append_right _ h1
def RchPost (code S : List Int) (w : World) (e : Ending) (w' : World) : Prop :=
  ∃ (v : Value) (L : List Int), e = .returned v ∧ w'.ownsRow w.heap.size 3 1 v L.length (ints L) ∧ L.length ≤ code.length ∧ (∀ p : Nat, (p : Int) ∈ L ↔ Rc (Gc code) S p) ∧ Below w.heap.size w w'
set_option maxRecDepth 100000 in
set_option maxHeartbeats 8000000 in
theorem sReached_c (code S : List Int) (ac sa : Option Addr) (cc sc : Nat) (w : World) (hr : Rd w (.slice ac code.length cc) code) (hs : Rd w (.slice sa S.length sc) S) (hb : code.all isByte = true) (hlen : code.length ≤ 2000) (hpos : 0 < code.length)
    (hnd : S.Nodup) (hbd : ∀ q ∈ S, 0 ≤ q ∧ q < code.length) (hSl : S.length ≤ 2000) :
    Calls Tryz.prog 61 #[.slice ac code.length cc, .slice sa S.length sc] w (RchPost code S w) := by
  have HRd := hid hr
  have HRs := hid hs
  have HBy := hid hb
  have HSt := hid (show CiRel code S 0 S from ⟨hnd, hbd, fun p hp => .start p hp, fun q hq => hq, fun j _ hj => by omega, by omega⟩)
  clear hr hs hb hnd hbd
  go_enter Tryz.func61, Tryz.ntmps61
  go_wp2_with fail
  refine (copyInts_c S sa sc w HRs.out (by omega)).mono ?_
  rintro e w1 ⟨v1, rfl, hown1, hb1⟩
  have HO1 := hid hown1
  have HB1 := hid hb1
  obtain ⟨s1, c1, rfl⟩ := own_slice hown1
  clear hown1 hb1
  go_wp2_with fail
  go_loopw [5, 6] (fun v c wr => ∃ (i : Nat) (L : List Int), c = .int .i64 i ∧ CiRel code S i L ∧ wr.ownsRow w.heap.size 3 1 v L.length (ints L) ∧ Below w.heap.size w wr) (fun _ c _ => code.length + 1 - (intOf c).toNat)
  case atStart => exact ⟨0, S, rfl, HSt.out, HO1.out, HB1.out⟩
  case round =>
    obtain ⟨i, L, rfl, hrel, hown, hbel⟩ := hrel
    have HR := hid hrel
    have HO := hid hown
    have HBe := hid hbel
    have hll := hrel.len
    have hle := hrel.le
    have hz := hbel.size
    by_cases hlt : i < L.length
    case neg =>
      obtain rfl : i = L.length := by omega
      obtain ⟨sv, cv, rfl⟩ := own_slice hown
      clear hrel hown hbel
      go_wp2_with fail
      go_ret
      exact ⟨_, L, rfl, HO.out, hll, HR.out.done, HBe.out⟩
    obtain ⟨g, cap, rfl, hg, hgl⟩ := own_addr HO.out (by omega)
    have hbi := hrel.bd L[i] (List.getElem_mem hlt)
    obtain ⟨p, hp⟩ := Int.eq_ofNat_of_zero_le hbi.1
    have hpl : p < code.length := by omega
    have hcell : wr.cell? ⟨g, i, none⟩ = some (.int .i64 p) := by
      have h := HO.out.cells (g := g) rfl i (.int .i64 p) (by rw [ints, List.getElem?_map, List.getElem?_eq_getElem hlt, Option.map_some, hp])
      rwa [addr_add] at h
    have HP := hid hp
    clear hrel hown hbel hbi hp
    go_wp2_with fail
    refine (sCalledIn_c code ac cc p wr (HRd.out.on HBe.out) HBy.out hlen hpos (by omega) (by omega)).mono ?_
    rintro e w2 ⟨v2, rfl, hown2, hb2⟩
    have hgl2 := gc_len code p
    obtain ⟨gl, hgc⟩ : ∃ l, Gc code p = l := ⟨_, rfl⟩
    have hown2 := (show w2.ownsRow wr.heap.size 3 1 v2 gl.length (ints gl) from by rw [← hgc]; exact hown2)
    rw [hgc] at hgl2
    have HGc := hid hgc
    have HG2 := hid (own_mono hown2 hz)
    have HO2 := hid (own_on HO.out hb2)
    have HB2 := hid (HBe.out.trans (hb2.mono hz))
    have HC0 := hid (show CjRel code S i p 0 L from ⟨HR.out, hlt, fun _ => HP.out, fun q hq => by rw [List.take_zero] at hq; cases hq⟩)
    obtain ⟨s2, c2, rfl⟩ := own_slice hown2
    have HFar := hid (show ∀ k, (Value.slice s2 gl.length c2).ownBlock = some k → k ≠ g from fun k hk h => by have := (hown2.lt k hk).1; omega)
    clear hown2 hb2 hcell hgc
    go_wp2_with fail
    go_loopw [5, 8] (fun v c wx => ∃ (k : Nat) (L2 : List Int), c = .int .i64 k ∧ k ≤ gl.length ∧ CjRel code S i p k L2 ∧ wx.ownsRow w.heap.size 3 1 v L2.length (ints L2) ∧ wx.ownsRow w.heap.size 3 1 (.slice s2 gl.length c2) gl.length (ints gl) ∧ (∀ k, (Value.slice s2 gl.length c2).ownBlock = some k → v.ownBlock ≠ some k) ∧ Below w.heap.size w wx) (fun _ c _ => gl.length - (intOf c).toNat)
    case atStart => exact ⟨0, L, rfl, by omega, HC0.out, HO2.out, HG2.out, fun k hk h => HFar.out k hk (by have h2 : g = k := (by simpa [Value.ownBlock] using h); exact h2.symm), HB2.out⟩
    case round =>
      obtain ⟨k, L2, rfl, hk, hrel, hown, hgow, hfar, hbel⟩ := hrel
      have HR2 := hid hrel
      have HO3 := hid hown
      have HG3 := hid hgow
      have HF3 := hid hfar
      have HBe3 := hid hbel
      have hll2 := hrel.base.len
      have hz3 := hbel.size
      obtain ⟨sv, cv, rfl⟩ := own_slice hown
      clear hrel hown hgow hfar hbel
      by_cases hkl : k < gl.length
      case neg =>
        obtain rfl : k = gl.length := by omega
        go_wp2_with fail
        go_roundw
        case rel => exact ⟨i + 1, L2, by go_num, CjRel.next (by rw [HGc.out]; exact HR2.out), HO3.out, HBe3.out⟩
        case measure => simp [intOf]; omega
      obtain ⟨gg, gcap, hsl, hgg, hggl⟩ := own_addr HG3.out (by omega)
      simp only [Value.slice.injEq, true_and] at hsl
      obtain ⟨rfl, rfl⟩ := hsl
      obtain ⟨y, hy⟩ : ∃ y, gl[k] = y := ⟨_, rfl⟩
      have hcell : wr.cell? ⟨gg, k, none⟩ = some (.int .i64 y) := by
        have h := HG3.out.cells (g := gg) rfl k (.int .i64 y) (by rw [ints, List.getElem?_map, List.getElem?_eq_getElem hkl, Option.map_some, hy])
        rwa [addr_add] at h
      have HY := hid hy
      clear hy
      go_wp2_with fail
      refine (inList_c L2 _ y _ (.of_own HO3.out) (by omega)).mono ?_
      rintro e w4 ⟨rfl, rfl⟩
      by_cases hin : y ∈ L2
      · rw [decide_eq_true hin]
        have HIn := hid hin
        clear hin
        go_wp2_with fail
        go_roundw
        case rel => exact ⟨k + 1, L2, by go_num, by omega, HR2.out.skip (by rw [HGc.out]; exact hkl) (by simp only [HGc.out, HY.out]; exact HIn.out), HO3.out, HG3.out, HF3.out, HBe3.out⟩
        case measure => simp [intOf]; omega
      · rw [decide_eq_false hin]
        have HIn := hid hin
        clear hin
        go_wp2_with (at_builtin; refine app_ints _ rfl _ _ rfl w.heap.size L2 [y] _ rfl (HO3.out.alloc _) _ _ _ rfl rfl (SrcAt.at_ _ [y] #[.int .i64 y] _ 1 rfl (by simp) rfl) (by simp; omega) (by simp; omega) ?_)
        intro v5 w5 hg5
        have HO5 := hid hg5.own
        have hba := (Below.refl w4.heap.size w4).alloc (Nat.le_refl _) (.cells #[.int .i64 y] 3)
        have HB5 := hid ((HBe3.out.trans (hba.mono hz3)).trans hg5.bel)
        have HG5 := hid (own_only (own_on HG3.out hba) (fun q hq h => HF3.out q hq h) (grows_only hg5))
        have HF5 := hid (show ∀ q, (Value.slice (some ⟨gg, 0, none⟩) gl.length c2).ownBlock = some q → v5.ownBlock ≠ some q from fun q hq h => by
          rcases hg5.at_ with h1 | ⟨g', h1, h2⟩
          · rw [h1] at h; exact HF3.out q hq h
          · rw [h1] at h
            obtain rfl : g' = q := Option.some.inj h
            have := (HG3.out.lt g' hq).2
            simp only [World.size_alloc] at h2
            omega)
        obtain ⟨s5, c5, rfl⟩ := own_slice hg5.own
        clear hg5 hba
        go_wp2_with fail
        go_roundw
        case rel => exact ⟨k + 1, L2 ++ [y], by go_num, by omega, by have h := HR2.out.add (by rw [HGc.out]; exact hkl) (by simp only [HGc.out, HY.out]; exact HIn.out); simp only [HGc.out, HY.out] at h; exact h, HO5.out, HG5.out, HF5.out, HB5.out⟩
        case measure => simp [intOf]; omega
end Go.Proofs.YtihhpgklpichgaaGreat.Wk
namespace Go.Proofs.YtihhpgklpichgaaGreat.Wk
open Go.RowKit Pl Ft Mm In C2 Im Sw

noncomputable def callsP (m : Img) (x : Int) : Bool := isFunP m x && pdec (Rc (Gc m.code) (Gc m.code x.toNat) x.toNat)
theorem gc_gbd (code : List Int) (p : Nat) (hl : code.length ≤ 2000) : GBd (Gc code) (Gc code p) 2000 2000 where
  st q hq := by have := gc_bd hq; omega
  bd r _ q hq := by have := gc_bd hq; omega
  len r _ := by have := gc_len code r; omega
theorem set_look {w : World} {b : Nat} {ms : List Nat} (h : SetAt w b ms) (p : Nat) : (Instr.lookup 121 (.map (some b)) (.int .i64 p) false).run Tryz.prog w = .ok (.bool (decide (p ∈ ms))) w := by
  by_cases hp : p ∈ ms
  · rw [decide_eq_true hp]; exact set_yes h hp
  · rw [decide_eq_false hp]; exact set_no h hp
theorem nl_len {L : Nat → List Nat} {S ms lf : List Nat} {nl : List Int} (h1 : ∀ p, p < 2001 → ∀ q ∈ L p, q < 2001) (h2 : ∀ q ∈ S, q < 2001) (hd : Gp.Dfs L S [] [] ms lf) (hn : natI lf = nl) : nl.length ≤ 1000000 := by
  rw [← hn, natI_len]
  have h3 := dfs_left hd
  have := Gp.nodup_le 2001 lf h3.2 (fun q hq => hd.lt h1 h2 (by simp) q ((h3.1 q).1 hq))
  omega
theorem calls_leads (code : List Int) (ac : Option Addr) (cc : Nat) (lb : Value) (gw gm B : Nat) (ms0 : List Nat) (S : List Int) (w0 : World) (hr : Rd w0 (.slice ac code.length cc) code) (hcap : code.length ≤ cc) (hby : code.all isByte = true) (hlen : code.length ≤ 2000) (hgw : gw < B) (hgm : gm < B) (hB : w0.heap.size ≤ B)
    (hms : ∀ p, Rc (Gc code) S p → ∀ q, Rc (Gm code false) [(p : Int)] q → (q ∈ ms0 ↔ (readP code q).isSome = true)) (hms1 : ∀ p ∈ ms0, (readP code p).isSome = true) (hGB : GBd (Gc code) S 2000 2000) :
    LeadsF (toL (Gc code)) (S.map Int.toNat) 2001 59 #[.pointer (some ⟨gw, 0, none⟩)] #[] (fun _ T w => T = (fun k => k < B) ∧ B ≤ w.heap.size ∧ Row w gw 88 #[.slice ac code.length cc, .map (some gm), lb] ∧ MapAt w gm code ms0 ∧ Below w0.heap.size w0 w) where
  call ms T p w hI hp _ hrc1 _ := by
    obtain ⟨rfl, hBw, hI⟩ := hI
    have hrc := (rc_av hGB p).2 hrc1
    refine (wcalledIn_c code ac cc lb gw gm p ms0 w (hr.on hI.2.2) hcap hby hlen (by omega) hI.1 hI.2.1 (hms p hrc) hms1).mono ?_
    rintro e w' ⟨v, rfl, ho, hb⟩
    exact ⟨v, _, rfl, by rw [show natI (toL (Gc code) p) = Gc code p from natI_toN (fun q hq => (hGB.bd p (by omega) q hq).1)]; exact Rd.of_own ho, fun k hk => ⟨(ho.lt k hk).1, fun h => by have := (ho.lt k hk).1; omega⟩, ⟨rfl, Nat.le_trans hBw hb.size, hI.1.on hb, hI.2.1.on hb, hI.2.2.trans (hb.mono hI.2.2.size)⟩, fun k hk => .inl hk, .of_below hb⟩
  enter xs w := by kernel_rfl
  on ms T w w' z hI hz ho := by
    obtain ⟨rfl, hBw, hrow, hmap, hbel⟩ := hI
    exact ⟨rfl, Nat.le_trans hBw ho.size, row_only hrow (fun h => hz _ h hgw) ho, hmap.only (fun h => hz _ h hgm) ho, hbel.trans (ho.below hbel.size (fun k hk => by
      rcases Nat.lt_or_ge k B with h | h
      · exact absurd h (hz k hk)
      · omega))⟩
  lt ms T w hI k hk := by
    obtain ⟨rfl, hBw, _⟩ := hI
    exact Nat.lt_of_lt_of_le hk hBw
  len p hp := by
    unfold toL
    rw [List.length_map]
    have := hGB.len p (by omega)
    omega
set_option maxRecDepth 100000 in
set_option maxHeartbeats 4000000 in
theorem callsItself_c (m : Img) (vc vd vn : Value) (x : Int) (w : World) (h : ICells w vc vd vn m) (hs : Sm m) (hcc : ∀ a n c, vc = .slice a n c → n ≤ c) :
    Calls Tryz.prog 29 #[imgVal vc vd vn m, .int .i64 x] w fun e w' => e = .returned (.bool (callsP m x)) ∧ Below w.heap.size w w' := by
  obtain ⟨ac, cc, rfl⟩ := rd_slice h.c
  obtain ⟨ad, cd, rfl⟩ := rd_slice h.d
  obtain ⟨an, cn, rfl⟩ := nrd_slice h.n
  have HI := hid h
  have HS := hid hs
  have HCap := hid hcc
  clear h hs hcc
  obtain ⟨o, ho⟩ : ∃ o, callsP m x = o := ⟨_, rfl⟩
  have HQ := hid ho
  rw [ho]
  clear ho
  have hV : imgVal (.slice ac m.code.length cc) (.slice ad m.data.length cd) (.slice an m.names.length cn) m = .agg #[.slice ac m.code.length cc, .int .i64 m.entry, .int .i64 m.room, .slice ad m.data.length cd, .slice an m.names.length cn] := rfl
  have HV := hid hV
  rw [hV]
  clear hV
  have HB1 := hid ((Below.refl w.heap.size w).alloc (Nat.le_refl _) (.cells #[.slice ac m.code.length cc, .int .i64 m.entry, .int .i64 m.room, .slice ad m.data.length cd, .slice an m.names.length cn] 30))
  have HX1 := hid (Row.new w 30 #[.slice ac m.code.length cc, .int .i64 m.entry, .int .i64 m.room, .slice ad m.data.length cd, .slice an m.names.length cn])
  have hw01 : w.heap.size < (w.alloc (.cells #[.slice ac m.code.length cc, .int .i64 m.entry, .int .i64 m.room, .slice ad m.data.length cd, .slice an m.names.length cn] 30)).heap.size := by simp
  go_enter Tryz.func29, Tryz.ntmps29
  go_wp2_with fail
  generalize w.alloc (.cells #[.slice ac m.code.length cc, .int .i64 m.entry, .int .i64 m.room, .slice ad m.data.length cd, .slice an m.names.length cn] 30) = w1 at HB1 HX1 hw01 ⊢
  rw [← HV.out]
  cases hf : isFunP m x
  · obtain rfl : o = false := by rw [← HQ.out, callsP, hf]; rfl
    refine (funsWith_no m _ _ _ x w1 (HI.out.on HB1.out) HS.out HCap.out hf).mono ?_
    rintro e w2 ⟨rfl, hb2⟩
    have HB2 := hid (HB1.out.trans (hb2.mono HB1.out.size))
    clear hb2 hf
    go_wp2_with fail
    go_ret
    exact ⟨rfl, HB2.out.alloc HB2.out.size _⟩
  · have h1 : imageOk m = true := by unfold isFunP at hf; exact (Bool.and_eq_true_iff.1 hf).1
    have hx : x ∈ funsL m := by unfold isFunP at hf; exact of_decide_eq_true (Bool.and_eq_true_iff.1 hf).2
    have HBd := hid (imageOk_bd h1)
    have hl2 := HBd.out.c1
    obtain ⟨p, rfl, hpl, hrc⟩ := funs_rc h1 hx
    have HO := hid (show o = pdec (Rc (Gc m.code) (Gc m.code p) p) by rw [← HQ.out, callsP, hf, Int.toNat_natCast]; rfl)
    have HRc := hid hrc
    refine (funsWith_yes m _ _ _ p w1 (HI.out.on HB1.out) HS.out HCap.out h1 hx).mono ?_
    rintro e w2 ⟨gw, gm, ms, vl, rfl, hrow, hmap, hmem, ⟨sl, cl, rfl⟩, hb2⟩
    obtain ⟨fn, hfn⟩ : ∃ k, (funsL m).length = k := ⟨_, rfl⟩
    rw [hfn]
    obtain ⟨w3, hw3, hr3, hb3, hz3⟩ := new_ex w2 59 #[.pointer (some ⟨gw, 0, none⟩), .slice sl fn cl]
    have HB3 := hid (HB1.out.trans ((hb2.trans (hb3.mono hb2.size)).mono HB1.out.size))
    have HRow := hid (hrow.on hb3)
    have HMap := hid (hmap.on hb3)
    have HR3 := hid hr3
    have hcl : m.code.length ≤ cc := HCap.out _ _ _ rfl
    have HIn := hid (show ∀ r, Rc (Gm m.code true) [m.entry] r → ∀ q, Rc (Gm m.code false) [(r : Int)] q → (q ∈ insOf m.code ms ↔ (readP m.code q).isSome = true) from fun r hr q hq => by
      rw [mem_insOf]
      exact ⟨fun h => h.2, fun h => ⟨(gw_gm hmem q).2 (rc_sub hr hq), h⟩⟩)
    clear hf h1 hx hrc hrow hmap hmem hb2 hb3 hr3 hfn
    have y0 := HR3.out.cell 0
    have y1 := HR3.out.cell 1
    simp at y0 y1
    go_upto_region 4 with fail
    clear hw3
    have hgwl := HRow.out.lt
    have hgml := HMap.out.lt
    have hb3z := HB3.out.size
    have HGall := hid (gc_gbd m.code p hl2)
    go_region_with (first
      | (go_at_call 59; refine (wcalledIn_c m.code ac cc _ gw gm p (insOf m.code ms) w3.drew ((HI.out.on HB3.out).c.on ((Below.refl _ _).drew)) hcl HBd.out.cb hl2 (by omega) HRow.out.drew (show MapAt w3.drew gm m.code (insOf m.code ms) from HMap.out) (HIn.out p HRc.out) (fun q hq => (mem_insOf.1 hq).2)).mono ?_; rintro e w4 ⟨v4, rfl, hown4, hb4⟩; obtain ⟨gl, hgc⟩ : ∃ l, Gc m.code p = l := ⟨_, rfl⟩; have hown4 := (show w4.ownsRow w3.drew.heap.size 3 1 v4 gl.length (ints gl) from by rw [← hgc]; exact hown4); have HGc := hid hgc; have HGB := hid (show GBd (Gc m.code) gl 2000 2000 from by rw [← hgc]; exact HGall.out); have HLt := hid (gbd_lt HGB.out); have HNt := hid (natI_toN (l := gl) (fun q hq => (HGB.out.st q hq).1)); have HO4 := hid hown4; have HB4 := hid (((Below.refl w3.heap.size w3).drew).trans hb4); have HR4 := hid (HR3.out.on HB4.out); have q0 := HR4.out.cell 0; have q1 := HR4.out.cell 1; simp at q0 q1; obtain ⟨s4, c4, rfl⟩ := own_slice hown4; clear hown4 hb4 hgc)
      | (go_at_call 63; refine (reached_f (gl.map Int.toNat) _ w4 (calls_leads m.code ac cc _ gw gm w3.heap.size (insOf m.code ms) gl w ((HI.out.c)) hcl HBd.out.cb hl2 HRow.out.lt HMap.out.lt hb3z (fun r hr => HIn.out r (by rw [← HGc.out] at hr; exact gc_rc HRc.out hr)) (fun q hq => (mem_insOf.1 hq).2) HGB.out) HLt.out.1 (by omega) HLt.out.2 (by rw [List.length_map]; have := gc_len m.code p; rw [HGc.out] at this; omega) (by rw [HNt.out]; exact Rd.of_own HO4.out) (fun k hk => ⟨(HO4.out.lt k hk).2, fun h => by have := (HO4.out.lt k hk).1; simp only [World.drew] at this; omega⟩) ⟨rfl, HB4.out.size, HRow.out.on HB4.out, HMap.out.on HB4.out, HB3.out.trans (HB4.out.mono hb3z)⟩).mono ?_; rintro e w5 ⟨ms2, lf, v5, T, rfl, hd5, hown5, ⟨_, _, _, _, hbe5⟩, _⟩; have HD5 := hid hd5; have HB5 := hid hbe5; have HO5 := hid hown5; obtain ⟨nl, hnl⟩ : ∃ l, natI lf = l := ⟨_, rfl⟩; have hown5 := (show w5.ownsRow w4.heap.size 3 1 v5 nl.length (ints nl) from by rw [← hnl]; exact hown5); have HNl := hid hnl; have HO5 := hid hown5; have hnl6 : nl.length ≤ 1000000 := (nl_len HLt.out.1 HLt.out.2 hd5 hnl); obtain ⟨s5, c5, rfl⟩ := own_slice hown5; clear hd5 hbe5 hown5 hnl)
      | (go_at_call 62; refine (contains_c nl _ p _ (Rd.of_own HO5.out) hnl6).mono ?_; rintro e w6 ⟨rfl, rfl⟩))
    all_goals
      go_wp2_with fail
      go_ret
      have hpm : ((p : Int) ∈ nl) ↔ Rc (Gc m.code) gl p := by
        rw [← HNl.out, ← dfs_rc HGB.out HD5.out p, ← (dfs_left HD5.out).1 p, natI, List.mem_map]
        exact ⟨fun ⟨q, hq, e⟩ => by obtain rfl : q = p := by omega
                                    exact hq, fun h => ⟨p, h, rfl⟩⟩
      rw [HO.out, HGc.out, ← decide_pdec hpm]
      exact ⟨rfl, HB5.out⟩
end Go.Proofs.YtihhpgklpichgaaGreat.Wk
namespace Go.Proofs.YtihhpgklpichgaaGreat.Wk
open Go.RowKit Pl Ft Mm In C2 Im Sw

set_option maxRecDepth 100000 in
set_option maxHeartbeats 4000000 in
theorem specCallsItself_c (m : Img) (vc vd vn : Value) (x : Int) (w : World) (h : ICells w vc vd vn m) (hs : Sm m) :
    Calls Tryz.prog 28 #[imgVal vc vd vn m, .int .i64 x] w fun e w' => e = .returned (.bool (callsP m x)) ∧ Below w.heap.size w w' := by
  obtain ⟨ac, cc, rfl⟩ := rd_slice h.c
  obtain ⟨ad, cd, rfl⟩ := rd_slice h.d
  obtain ⟨an, cn, rfl⟩ := nrd_slice h.n
  have HI := hid h
  have HS := hid hs
  clear h hs
  obtain ⟨o, ho⟩ : ∃ o, callsP m x = o := ⟨_, rfl⟩
  have HQ := hid ho
  rw [ho]
  clear ho
  have hV : imgVal (.slice ac m.code.length cc) (.slice ad m.data.length cd) (.slice an m.names.length cn) m = .agg #[.slice ac m.code.length cc, .int .i64 m.entry, .int .i64 m.room, .slice ad m.data.length cd, .slice an m.names.length cn] := rfl
  have HV := hid hV
  rw [hV]
  clear hV
  obtain ⟨w1, hw1, hr1, hb1, hz1⟩ := new_ex w 30 #[.slice ac m.code.length cc, .int .i64 m.entry, .int .i64 m.room, .slice ad m.data.length cd, .slice an m.names.length cn]
  have HX1 := hid hr1
  have HB1 := hid hb1
  have x0 := hr1.cell 0
  have x1 := hr1.cell 1
  have x2 := hr1.cell 2
  have x3 := hr1.cell 3
  have x4 := hr1.cell 4
  simp at x0 x1 x2 x3 x4
  clear hr1 hb1
  go_enter Tryz.func28, Tryz.ntmps28
  go_upto_region 1 with fail
  clear hw1
  cases hf : isFunP m x
  · obtain rfl : o = false := by rw [← HQ.out, callsP, hf]; rfl
    have HF := hid hf
    clear hf
    refine wp_region_any (by kernel_rfl) ?_
    refine wpAny_take (i := 1) (v := _) rfl (by kernel_rfl) (by kernel_rfl) (by kernel_rfl) (fun _ _ _ h => h) (Or.inl ⟨by rfl, fun w => by go_simp; first | done | with_reducible rfl⟩) ?_
    refine wpAny_ready (rs := [0]) (by kernel_rfl) (by simp) ?_
    refine AllReady.cons rfl (fun K hK => ?_) AllReady.nil
    go_simp
    refine hK _ _ ?_
    clear hK K
    refine wpAny_ready (rs := [2]) (by kernel_rfl) (by simp) ?_
    refine AllReady.cons rfl (fun K hK => ?_) AllReady.nil
    go_simp
    go_at_call 55
    rw [← HV.out]
    refine (isFun_c m _ _ _ x w1.drew (HI.out.on (HB1.out.drew)) HS.out).mono ?_
    rintro e w2 ⟨rfl, hb2⟩
    rw [HF.out]
    have HB2 := hid (HB1.out.drew.trans (hb2.mono HB1.out.drew.size))
    clear hb2
    simp only
    refine hK _ _ ?_
    clear hK K
    refine wpAny_take (i := 3) (v := _) rfl (by kernel_rfl) (by kernel_rfl) (by kernel_rfl) (fun _ _ _ h => h) (Or.inl ⟨by rfl, fun w => by go_simp; first | done | with_reducible rfl⟩) ?_
    refine wpAny_take (i := 4) (v := undef) rfl (by kernel_rfl) (by kernel_rfl) (by kernel_rfl) (fun _ _ _ h => h) (Or.inr ⟨by rfl, rfl⟩) ?_
    refine wpAny_take (i := 5) (v := undef) rfl (by kernel_rfl) (by kernel_rfl) (by kernel_rfl) (fun _ _ _ h => h) (Or.inr ⟨by rfl, rfl⟩) ?_
    refine wpAny_take (i := 6) (v := undef) rfl (by kernel_rfl) (by kernel_rfl) (by kernel_rfl) (fun _ _ _ h => h) (Or.inr ⟨by rfl, rfl⟩) ?_
    refine wpAny_take (i := 7) (v := undef) rfl (by kernel_rfl) (by kernel_rfl) (by kernel_rfl) (fun _ _ _ h => h) (Or.inr ⟨by rfl, rfl⟩) ?_
    refine wpAny_take (i := 8) (v := undef) rfl (by kernel_rfl) (by kernel_rfl) (by kernel_rfl) (fun _ _ _ h => h) (Or.inr ⟨by rfl, rfl⟩) ?_
    refine wpAny_take (i := 11) (v := undef) rfl (by kernel_rfl) (by kernel_rfl) (by kernel_rfl) (fun _ _ _ h => h) (Or.inr ⟨by rfl, rfl⟩) ?_
    refine wpAny_ready (rs := [9]) (by kernel_rfl) (by simp) ?_
    refine AllReady.cons rfl (fun K hK => ?_) AllReady.nil
    go_simp
    refine hK _ _ ?_
    clear hK K
    refine wpAny_ready (rs := [10]) (by kernel_rfl) (by simp) ?_
    refine AllReady.cons rfl (fun K hK => ?_) AllReady.nil
    go_simp
    refine hK _ _ ?_
    clear hK K
    refine wpAny_ready (rs := [12]) (by kernel_rfl) (by simp) ?_
    refine AllReady.cons rfl (fun K hK => ?_) AllReady.nil
    go_simp
    refine hK _ _ ?_
    clear hK K
    refine wpAny_take (i := 13) (v := _) rfl (by kernel_rfl) (by kernel_rfl) (by kernel_rfl) (fun _ _ _ h => h) (Or.inl ⟨by rfl, fun w => by go_simp; first | done | with_reducible rfl⟩) ?_
    refine wpAny_take (i := 14) (v := _) rfl (by kernel_rfl) (by kernel_rfl) (by kernel_rfl) (fun _ _ _ h => h) (Or.inl ⟨by rfl, fun w => by go_simp; first | done | with_reducible rfl⟩) ?_
    refine wpAny_done (by kernel_rfl) ?_ _
    go_wp2_with fail
    go_ret
    exact ⟨rfl, HB2.out⟩
  · have h1 : imageOk m = true := by unfold isFunP at hf; exact (Bool.and_eq_true_iff.1 hf).1
    have hx : x ∈ funsL m := by unfold isFunP at hf; exact of_decide_eq_true (Bool.and_eq_true_iff.1 hf).2
    have HBd := hid (imageOk_bd h1)
    have hl2 := HBd.out.c1
    obtain ⟨p, rfl, hpl, _⟩ := funs_rc h1 hx
    have HO := hid (show o = pdec (Rc (Gc m.code) (Gc m.code p) p) by rw [← HQ.out, callsP, hf, Int.toNat_natCast]; rfl)
    have HF := hid hf
    clear hf h1 hx
    go_region_with (first
      | (go_at_call 55; rw [← HV.out]; refine (isFun_c m _ _ _ p w1.drew (HI.out.on (HB1.out.drew)) HS.out).mono ?_; rintro e w2 ⟨rfl, hb2⟩; rw [HF.out]; have HB2 := hid (HB1.out.drew.trans (hb2.mono HB1.out.drew.size)); have HX2 := hid (HX1.out.drew.on hb2); have a0 := HX2.out.cell 0; simp at a0; clear hb2)
      | (go_at_call 58; refine (sCalledIn_c m.code ac cc p w2 (HI.out.on HB2.out).c HBd.out.cb hl2 (by omega) (by omega) (by omega)).mono ?_; rintro e w3 ⟨v3, rfl, hown3, hb3⟩; obtain ⟨gl, hgc⟩ : ∃ l, Gc m.code p = l := ⟨_, rfl⟩; have hown3 := (show w3.ownsRow w2.heap.size 3 1 v3 gl.length (ints gl) from by rw [← hgc]; exact hown3); have HGc := hid hgc; have HO3 := hid hown3; have HB3 := hid (HB2.out.trans (hb3.mono HB2.out.size)); have HX3 := hid (HX2.out.on hb3); have b0 := HX3.out.cell 0; simp at b0; obtain ⟨s3, c3, rfl⟩ := own_slice hown3; clear hown3 hb3 hgc)
      | (go_at_call 61; refine (sReached_c m.code gl ac _ cc _ w3 (HI.out.on HB3.out).c (.of_own HO3.out) HBd.out.cb hl2 (by omega) (by rw [← HGc.out]; exact truesL_nodup _ _) (fun q hq => by rw [← HGc.out] at hq; exact gc_bd hq) (by have := gc_len m.code p; rw [HGc.out] at this; omega)).mono ?_; rintro e w4 ⟨v4, L, rfl, hown4, hll, hmem, hb4⟩; have HO4 := hid hown4; have HM4 := hid hmem; have HB4 := hid (HB3.out.trans (hb4.mono HB3.out.size)); obtain ⟨s4, c4, rfl⟩ := own_slice hown4; clear hown4 hb4 hmem)
      | (go_at_call 60; refine (inList_c L _ p w4 (.of_own HO4.out) (by omega)).mono ?_; rintro e w5 ⟨rfl, rfl⟩))
    all_goals
      go_wp2_with fail
      go_ret
      rw [HO.out, HGc.out, ← decide_pdec (HM4.out p)]
      exact ⟨rfl, HB4.out⟩
end Go.Proofs.YtihhpgklpichgaaGreat.Wk
namespace Go.Proofs.YtihhpgklpichgaaGreat.Wk
open Go.RowKit Pl Ft Mm In C2 Im Sw

set_option maxRecDepth 100000 in
set_option maxHeartbeats 2000000 in
theorem exactCallsItself_w (m : Img) (vc vd vn : Value) (x : Int) (w : World) (hc : Rd w vc m.code) (hd : Rd w vd m.data) (hn : NRd w vn m.names) (hw : Wide m) :
    Calls Tryz.prog 7 #[imgVal vc vd vn m, .int .i64 x] w fun e w' => e = .returned (.bool true) ∧ Below w.heap.size w w' := by
  have HC := hid hc
  have HD := hid hd
  have HN := hid hn
  have HW := hid hw
  clear hc hd hn hw
  have hV : imgVal vc vd vn m = .agg #[vc, .int .i64 m.entry, .int .i64 m.room, vd, vn] := rfl
  rw [hV]
  clear hV
  have HX0 := hid (Row.new w 25 #[vc, .int .i64 m.entry, .int .i64 m.room, vd, vn])
  have HB0 := hid ((Below.refl w.heap.size w).alloc (Nat.le_refl _) (.cells #[vc, .int .i64 m.entry, .int .i64 m.room, vd, vn] 25))
  go_enter Tryz.func7, Tryz.ntmps7
  go_wp2_with fail
  refine (szImage_c m vc vd vn _ _ (HC.out.on HB0.out) (HD.out.on HB0.out) (HN.out.on HB0.out) HW.out (by omega) (by omega)).mono ?_
  rintro e w1 ⟨y, rfl, hx1, hx0, hxp, hb1⟩
  have HB1 := hid (HB0.out.trans (hb1.mono HB0.out.size))
  have HX1 := hid (HX0.out.on hb1)
  have HP := hid hxp
  have hz1 := hb1.size
  simp only [World.size_alloc] at hz1
  clear hb1 hxp
  by_cases hx : 0 ≤ y
  case neg =>
    go_wp2_with fail
    go_ret
    exact ⟨rfl, HB1.out⟩
  have HS := hid (HP.out hx)
  have x0 := HX1.out.cell 0
  have x1 := HX1.out.cell 1
  have x2 := HX1.out.cell 2
  have x3 := HX1.out.cell 3
  have x4 := HX1.out.cell 4
  simp at x0 x1 x2 x3 x4
  go_wp2_with fail
  refine (toImage_c m vc vd vn _ (HC.out.on HB1.out) (HD.out.on HB1.out) (HN.out.on HB1.out) HS.out).mono ?_
  rintro e w2 ⟨ac, ad, an, rfl, hown2, hb2⟩
  have HO2 := hid hown2
  have HB2 := hid (HB1.out.trans (hb2.mono HB1.out.size))
  have HX2 := hid (HX1.out.on hb2)
  have hz2 := hb2.size
  clear hown2 hb2 x0 x1 x2 x3 x4
  go_wp2_with fail
  refine (specCallsItself_c m ac ad an x _ HO2.out.cells HS.out).mono ?_
  rintro e w3 ⟨rfl, hb3⟩
  have HB3 := hid (HB2.out.trans (hb3.mono HB2.out.size))
  have HX3 := hid (HX2.out.on hb3)
  have hz3 := hb3.size
  clear hb3
  have x0 := HX3.out.cell 0
  have x1 := HX3.out.cell 1
  have x2 := HX3.out.cell 2
  have x3 := HX3.out.cell 3
  have x4 := HX3.out.cell 4
  simp at x0 x1 x2 x3 x4
  go_wp2_with fail
  refine (toImage_c m vc vd vn _ (HC.out.on HB3.out) (HD.out.on HB3.out) (HN.out.on HB3.out) HS.out).mono ?_
  rintro e w4 ⟨bc, bd, bn, rfl, hown4, hb4⟩
  have HO4 := hid hown4
  have HB4 := hid (HB3.out.trans (hb4.mono HB3.out.size))
  have HX4 := hid (HX3.out.on hb4)
  have hz4 := hb4.size
  clear hown4 hb4 x0 x1 x2 x3 x4
  obtain ⟨s1, c1, rfl⟩ := own_slice HO4.out.c
  obtain ⟨s2, c2, rfl⟩ := own_slice HO4.out.d
  obtain ⟨s3, c3, rfl⟩ := own_slice HO4.out.n
  unfold imgVal
  simp only
  go_wp2_with fail
  have HY4 := hid (Row.new w4 30 #[.slice s1 m.code.length c1, .int .i64 m.entry, .int .i64 m.room, .slice s2 m.data.length c2, .slice s3 m.names.length c3])
  have HB5 := hid (HB4.out.alloc HB4.out.size (.cells #[.slice s1 m.code.length c1, .int .i64 m.entry, .int .i64 m.room, .slice s2 m.data.length c2, .slice s3 m.names.length c3] 30))
  have HX5 := hid (HX4.out.alloc (.cells #[.slice s1 m.code.length c1, .int .i64 m.entry, .int .i64 m.room, .slice s2 m.data.length c2, .slice s3 m.names.length c3] 30))
  have HO5 := hid (HO4.out.on ((Below.refl _ _).alloc (Nat.le_refl _) (.cells #[.slice s1 m.code.length c1, .int .i64 m.entry, .int .i64 m.room, .slice s2 m.data.length c2, .slice s3 m.names.length c3] 30)))
  refine (callsItself_c m _ _ _ x _ HO5.out.cells HS.out (own_cap3 HO4.out.c)).mono ?_
  rintro e w6 ⟨rfl, hb6⟩
  have HY6 := hid (HY4.out.on hb6)
  have HX6 := hid (HX5.out.on hb6)
  have HO6 := hid (HO5.out.on hb6)
  have HB6 := hid (HB5.out.trans (hb6.mono HB5.out.size))
  have hz6 := hb6.size
  simp only [World.size_alloc] at hz6
  clear hb6
  have x0 := HX6.out.cell 0
  have x1 := HX6.out.cell 1
  have x2 := HX6.out.cell 2
  have x3 := HX6.out.cell 3
  have x4 := HX6.out.cell 4
  have y0 := HY6.out.cell 0
  have y1 := HY6.out.cell 1
  have y2 := HY6.out.cell 2
  have y3 := HY6.out.cell 3
  have y4 := HY6.out.cell 4
  simp at x0 x1 x2 x3 x4 y0 y1 y2 y3 y4
  have hw4 : w4.heap.size < w6.heap.size := by omega
  have hw0 : w.heap.size < w6.heap.size := by omega
  cases hok : callsP m x
  all_goals
    go_wp2_with fail
    go_region_with (first
      | (go_at_call 15; refine (toImage_c m vc vd vn _ (HC.out.on HB6.out.drew) (HD.out.on HB6.out.drew) (HN.out.on HB6.out.drew) HS.out).mono ?_; rintro e w7 ⟨tc, td, tn, rfl, hown7, hb7⟩; have HO7 := hid hown7; have HB7 := hid hb7; have HY7 := hid (HY6.out.drew.on hb7); have z0 := HY7.out.cell 0; have z1 := HY7.out.cell 1; have z2 := HY7.out.cell 2; have z3 := HY7.out.cell 3; have z4 := HY7.out.cell 4; simp at z0 z1 z2 z3 z4; clear hown7 hb7)
      | (go_at_call 18; refine (eqImage_own m _ _ _ _ _ _ _ (HO6.out.on ((Below.refl _ _).drew.trans HB7.out)) HO7.out HS.out).mono ?_; rintro e w8 ⟨rfl, hb8⟩))
    all_goals
      have HB8 := hid ((HB6.out.drew.trans (HB7.out.mono HB6.out.drew.size)).trans (hb8.mono (HB6.out.drew.trans (HB7.out.mono HB6.out.drew.size)).size))
      clear hb8 x0 x1 x2 x3 x4 y0 y1 y2 y3 y4
      go_wp2_with fail
      go_ret
      exact ⟨rfl, HB8.out⟩
end Go.Proofs.YtihhpgklpichgaaGreat.Wk
