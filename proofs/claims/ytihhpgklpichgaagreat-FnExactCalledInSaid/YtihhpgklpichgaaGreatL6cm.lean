/- L6cm: several texts in one. -/
import Derived.Test.YtihhpgklpichgaaGreatBo
import Derived.Test.YtihhpgklpichgaaGreatFu
import Derived.Test.YtihhpgklpichgaaGreatL3a
import Derived.Test.YtihhpgklpichgaaGreatMark
import Derived.Test.YtihhpgklpichgaaGreatSwCap
/- body, funsWith of the program, isFun of the model; BodyOf and CalledIn of both. -/
set_option linter.unusedSimpArgs false
set_option linter.unusedVariables false
namespace Go.Proofs.YtihhpgklpichgaaGreat.Wk
open Go.RowKit Pl Ft Mm In C2 Im Sw

theorem bodyL_len {code : List Int} {ms : List Nat} (hnd : ms.Nodup) (hb : ∀ q ∈ ms, q ≤ 100000) : (bodyL code ms).length ≤ 100001 := by
  unfold bodyL
  rw [List.length_map]
  exact rc_nodup_le 100001 _ (hnd.filter _) (fun q hq => by have := hb q (mem_insOf.1 hq).1; omega)
theorem body_leads (code : List Int) (ac : Option Addr) (cc : Nat) (lb : Value) (gw gm gp gl : Nat) (ms0 : List Nat) (S : List Int) (w00 wS : World)
    (hr : Rd w00 (.slice ac code.length cc) code) (hcap : code.length ≤ cc) (hb00 : Below w00.heap.size w00 wS) (hgl0 : w00.heap.size ≤ gl) (hgl : gl < wS.heap.size) (hby : code.all isByte = true) (hlen : code.length ≤ 2000)
    (hw : Row wS gw 88 #[.slice ac code.length cc, .map (some gm), lb]) (hm : MapAt wS gm code ms0) (hp : Row wS gp 52 #[.pointer (some ⟨gw, 0, none⟩)]) (h1 : gw ≠ gl) (h2 : gm ≠ gl) (h3 : gp ≠ gl)
    (hms0 : ∀ p, Rc (Gm code false) S p → (p ∈ ms0 ↔ (readP code p).isSome = true)) (hGB : GBd (Gm code false) S 100000 10) :
    LeadsF (toL (Gm code false)) (S.map Int.toNat) 100001 99 #[] #[.pointer (some ⟨gp, 0, none⟩), .pointer (some ⟨gl, 0, none⟩)] (fun ms T w => BdSt code gl wS ms T w ∧ ms.Nodup ∧ ∀ q ∈ ms, q ≤ 100000) where
  call ms T p w hI hpN1 hn hrc1 _ := by
    have hpN : p ≤ 100000 := by omega
    have hrc := (rc_av hGB p).2 hrc1
    have hnd : (ms ++ [p]).Nodup := by
      rw [List.nodup_append]
      exact ⟨hI.2.1, by simp, fun a ha b hb => by
        obtain rfl : b = p := by simpa using hb
        exact fun e => hn (e ▸ ha)⟩
    have hbd : ∀ q ∈ ms ++ [p], q ≤ 100000 := fun q hq => by
      rcases List.mem_append.1 hq with h | h
      · exact hI.2.2 q h
      · obtain rfl : q = p := by simpa using h
        exact hpN
    refine (bodyFn_c code ac cc lb gw gm gp gl ms0 w00 wS ms T p w hr hcap hb00 hgl0 hgl hby hlen hw hm hp h1 h2 h3 (hms0 p hrc) hpN hI.1 (bodyL_len hnd hbd)).mono ?_
    rintro e w' ⟨v, T', B', rfl, hB, hTB, ho, hs, hT, hon⟩
    exact ⟨v, T', rfl, by rw [show natI (toL (Gm code false) p) = Gm code false p from natI_toN (fun q hq => (hGB.bd p hpN q hq).1)]; exact Rd.of_own ho, fun k hk => ⟨by have := (ho.lt k hk).1; omega, fun h => by have := (ho.lt k hk).1; have := hTB k h; omega⟩, ⟨hs, hnd, hbd⟩, hT, hon⟩
  enter xs w := by kernel_rfl
  on ms T w w' z hI hz ho := ⟨hI.1.on hgl hz ho, hI.2⟩
  lt ms T w hI k hk := hI.1.lt k hk
  len p hp := by
    unfold toL
    rw [List.length_map]
    have := hGB.len p (by omega)
    omega
set_option maxRecDepth 100000 in
set_option maxHeartbeats 4000000 in
theorem body_c (code : List Int) (ac : Option Addr) (cc : Nat) (lb : Value) (gw gm at_ : Nat) (ms0 : List Nat) (w : World) (hr : Rd w (.slice ac code.length cc) code) (hcap : code.length ≤ cc) (hby : code.all isByte = true) (hlen : code.length ≤ 2000) (hat : at_ ≤ 2000)
    (hw : Row w gw 88 #[.slice ac code.length cc, .map (some gm), lb]) (hm : MapAt w gm code ms0) (hms0 : ∀ p, Rc (Gm code false) [(at_ : Int)] p → (p ∈ ms0 ↔ (readP code p).isSome = true)) :
    Calls Tryz.prog 57 #[.pointer (some ⟨gw, 0, none⟩), .int .i64 at_] w (WaysPost2 (reachL code [(at_ : Int)] false) w) := by
  have HRd := hid hr
  have HBy := hid hby
  have HW := hid hw
  have HM := hid hm
  have HMs := hid hms0
  have hgw := hw.lt
  have hgm := hm.lt
  obtain ⟨w1, hw1, hr1, hb1, hz1⟩ := new_ex w 52 #[.pointer (some ⟨gw, 0, none⟩)]
  obtain ⟨w2, hw2, hr2, hb2, hz2⟩ := new_ex w1 22 #[.slice none 0 0]
  obtain ⟨w3, hw3, _, hb3, hz3⟩ := new_ex w2 3 #[.int .i64 at_]
  have HL3 := hid (show w3.ownsRow w2.heap.size 3 1 (.slice (some ⟨w2.heap.size, 0, none⟩) 1 1) 1 (ints [(at_ : Int)]) by rw [← hw3]; exact own_lit w2 [(at_ : Int)] #[.int .i64 at_] rfl (by simp) 1 rfl)
  have hb02 := hb1.trans (hb2.mono (Nat.le_of_lt hz1))
  have HB2 := hid hb02
  have HB23 := hid hb3
  have HP2 := hid (hr1.on hb2)
  have HR2 := hid hr2
  have HR3 := hid (hr2.on hb3)
  have HW2 := hid (hw.on hb02)
  have HM2 := hid (hm.on hb02)
  clear hr hby hw hm hms0 hr1 hr2 hb1 hb2 hb3 hb02
  go_enter Tryz.func57, Tryz.ntmps57
  go_wp2_with fail
  clear hw1 hw2 hw3
  have HG := hid (show w.heap.size < w2.heap.size ∧ w1.heap.size < w2.heap.size ∧ w.heap.size < w1.heap.size by omega)
  have hGB := gm_bd HBy.out hlen false (S := [(at_ : Int)]) (fun q hq => by obtain rfl : q = (at_ : Int) := (by simpa using hq); omega)
  have HGB := hid hGB
  have hgb := gbd_lt hGB
  refine (reached_f [at_] _ _ (body_leads code ac cc lb gw gm w.heap.size w1.heap.size ms0 [(at_ : Int)] w w2 HRd.out hcap HB2.out (by omega) (by omega) HBy.out hlen HW2.out HM2.out HP2.out (by omega) (by omega) (by omega) HMs.out hGB) hgb.1 (by omega) (by simp; omega) (by simp) (Rd.of_own HL3.out) (fun k hk => ?_) ⟨⟨⟨_, rfl, HR3.out, World.ownsRow_nil _ _ _ _⟩, .of_below HB23.out, by simp [bodyL, insOf]⟩, List.nodup_nil, fun q hq => by cases hq⟩).mono ?_
  · have h1 := HL3.out.lt k hk
    exact ⟨h1.2, fun h => by
      rcases h with h | h
      · have := h1.1; omega
      · cases h⟩
  rintro e w4 ⟨ms, lf, v4, T, rfl, hd, hown4, ⟨hst, _, _⟩, _⟩
  have hmem := dfs_rc HGB.out hd
  have hnd := hd.nodup List.nodup_nil
  obtain ⟨s4, c4, rfl⟩ := own_slice hown4
  clear hd hown4 hGB hgb
  obtain ⟨lv, rfl, hrow, hown⟩ := hst.ex
  have HOn := hid hst.only
  have hsl := hst.len
  have hso : sortI (bodyL code ms) = reachL code [(at_ : Int)] false := by
    rw [← trues_reach hmem]
    exact sorted_trues (.refl _) (hnd.filter _) insOf_lt
  obtain ⟨bl, hbl⟩ : ∃ l, bodyL code ms = l := ⟨_, rfl⟩
  rw [hbl] at hown hsl hso
  have HSo := hid hso
  have HO4 := hid hown
  have HR4 := hid hrow
  have l0 := hrow.cell 0
  obtain ⟨ls, lc, rfl⟩ := own_slice hown
  simp at l0
  clear hst hmem hnd hrow hown hso hbl
  go_wp2_with fail
  refine (sort_c w2.heap.size bl _ w4 HO4.out (by omega)).mono ?_
  rintro e w5 ⟨rfl, hown5, ho5⟩
  have hfar := fun k (hk : (Value.slice ls bl.length lc).ownBlock = some k) => (HO4.out.lt k hk).1
  have HR5 := hid (row_only HR4.out (fun h => by have := hfar _ h; omega) ho5)
  have HOn5 := hid (only_mix HOn.out ho5 (fun k hk => .inr (hfar k hk)))
  have l1 := HR5.out.cell 0
  simp at l1
  rw [HSo.out] at hown5
  obtain ⟨rl, hrl⟩ : ∃ l, reachL code [(at_ : Int)] false = l := ⟨_, rfl⟩
  rw [hrl] at hown5
  have hll : rl.length = bl.length := by rw [← hrl, ← HSo.out]; exact sortI_len bl
  have HRl := hid hrl
  have HLl := hid hll
  have HO5 := hid hown5
  clear l0 ho5 hown5 hrl hll hfar
  go_wp2_with fail
  go_ret
  rw [HRl.out]
  exact ⟨_, rfl, own_mono HO5.out (by omega), HB2.out.trans (HOn5.out.below HB2.out.size (fun k hk => by rw [hk]; omega))⟩
end Go.Proofs.YtihhpgklpichgaaGreat.Wk
namespace Go.Proofs.YtihhpgklpichgaaGreat.Wk
open Go.RowKit Pl Ft Mm In C2 Im Sw

def IdxPost2 (l : List Int) (x : Int) (w : World) (e : Ending) (w' : World) : Prop := ∃ r : Int, e = .returned (.int .i64 r) ∧ ((x ∈ l ∧ 0 ≤ r ∧ r ≤ 1000000) ∨ (x ∉ l ∧ r = -1)) ∧ w' = w
set_option maxHeartbeats 1000000 in
theorem idx_c (l : List Int) (v : Value) (x : Int) (w : World) (hr : Rd w v l) (hl : l.length ≤ 1000000) : Calls Tryz.prog 103 #[v, .int .i64 x] w (IdxPost2 l x w) := by
  obtain ⟨a, cap, rfl, ha⟩ := hr
  have HA := hid ha
  clear ha
  go_enter Tryz.func103, Tryz.ntmps103
  go_wp2_with fail
  go_loopw [8] (fun c wr => ∃ k : Nat, c = .int .i64 k ∧ k ≤ l.length ∧ (∀ y ∈ l.take k, y ≠ x) ∧ wr = w) (fun c _ => l.length - (intOf c).toNat)
  case atStart => exact ⟨0, rfl, by omega, by simp, rfl⟩
  case round =>
    obtain ⟨k, rfl, hk, hno, rfl⟩ := hrel
    have HNo := hid hno
    clear hno
    by_cases hlt : k < l.length
    · rcases HA.out with h | ⟨g, o, rfl, hg, hcs⟩
      · subst h; simp at hlt
      have q0 := hcs k hlt
      have hgd : l.getD k 0 = l[k] := by simp [hlt]
      rw [hgd] at q0
      have HMem := hid (List.getElem_mem hlt)
      have HTk := hid (List.take_succ_eq_append_getElem hlt)
      obtain ⟨y, hy⟩ : ∃ y, l[k] = y := ⟨_, rfl⟩
      rw [hy] at q0 HMem HTk
      clear hcs hgd hy
      by_cases he : x = y
      · subst he
        go_wp2_with fail
        go_ret
        exact ⟨_, rfl, .inl ⟨HMem.out, by omega, by omega⟩, rfl⟩
      · have hne : (x == y) = false := by rw [beq_eq_false_iff_ne]; exact he
        have HE := hid he
        clear he
        go_wp2_with fail
        go_roundw
        case rel => exact ⟨k + 1, by go_num, by omega, fun z hz => by
          rw [HTk.out] at hz
          rcases List.mem_append.1 hz with h | h
          · exact HNo.out z h
          · obtain rfl : z = y := by simpa using h
            exact fun h => HE.out h.symm, by first | rfl | trivial⟩
        case measure => simp [intOf]; omega
    · obtain rfl : k = l.length := by omega
      go_wp2_with fail
      go_ret
      refine ⟨_, rfl, .inr ⟨fun h => ?_, rfl⟩, rfl⟩
      have h2 := HNo.out
      rw [List.take_length] at h2
      exact h2 x h rfl
theorem contains_c (l : List Int) (v : Value) (x : Int) (w : World) (hr : Rd w v l) (hl : l.length ≤ 1000000) : Calls Tryz.prog 62 #[v, .int .i64 x] w fun e w' => e = .returned (.bool (decide (x ∈ l))) ∧ w' = w := by
  have HR := hid hr
  obtain ⟨a, cap, rfl, _⟩ := hr
  go_enter Tryz.func62, Tryz.ntmps62
  go_wp2_with fail
  refine (idx_c l _ x w HR.out hl).mono ?_
  rintro e w1 ⟨r, rfl, h, rfl⟩
  rcases h with ⟨h1, h2, h3⟩ | ⟨h1, rfl⟩
  · have HD := hid (decide_eq_true h1)
    clear h1
    go_wp2_with fail
    go_ret
    rw [HD.out]
    exact ⟨rfl, rfl⟩
  · have HD := hid (decide_eq_false h1)
    clear h1
    go_wp2_with fail
    go_ret
    rw [HD.out]
    exact ⟨rfl, rfl⟩
set_option maxHeartbeats 1000000 in
theorem placeOf_c (l : List Int) (v : Value) (x : Int) (w : World) (hr : Rd w v l) (hl : l.length ≤ 1000000) : Calls Tryz.prog 102 #[v, .int .i64 x] w (IdxPost2 l x w) := by
  obtain ⟨a, cap, rfl, ha⟩ := hr
  have HA := hid ha
  clear ha
  go_enter Tryz.func102, Tryz.ntmps102
  go_wp2_with fail
  go_loopw [5] (fun c wr => ∃ k : Nat, c = .int .i64 k ∧ k ≤ l.length ∧ (∀ y ∈ l.take k, y ≠ x) ∧ wr = w) (fun c _ => l.length - (intOf c).toNat)
  case atStart => exact ⟨0, rfl, by omega, by simp, rfl⟩
  case round =>
    obtain ⟨k, rfl, hk, hno, rfl⟩ := hrel
    have HNo := hid hno
    clear hno
    by_cases hlt : k < l.length
    · rcases HA.out with h | ⟨g, o, rfl, hg, hcs⟩
      · subst h; simp at hlt
      have q0 := hcs k hlt
      have hgd : l.getD k 0 = l[k] := by simp [hlt]
      rw [hgd] at q0
      have HMem := hid (List.getElem_mem hlt)
      have HTk := hid (List.take_succ_eq_append_getElem hlt)
      obtain ⟨y, hy⟩ : ∃ y, l[k] = y := ⟨_, rfl⟩
      rw [hy] at q0 HMem HTk
      clear hcs hgd hy
      by_cases he : y = x
      · subst he
        go_wp2_with fail
        go_ret
        exact ⟨_, rfl, .inl ⟨HMem.out, by omega, by omega⟩, rfl⟩
      · have hne : (y == x) = false := by rw [beq_eq_false_iff_ne]; exact he
        have HE := hid he
        clear he
        go_wp2_with fail
        go_roundw
        case rel => exact ⟨k + 1, by go_num, by omega, fun z hz => by
          rw [HTk.out] at hz
          rcases List.mem_append.1 hz with h | h
          · exact HNo.out z h
          · obtain rfl : z = y := by simpa using h
            exact HE.out, by first | rfl | trivial⟩
        case measure => simp [intOf]; omega
    · obtain rfl : k = l.length := by omega
      go_wp2_with fail
      go_ret
      refine ⟨_, rfl, .inr ⟨fun h => ?_, rfl⟩, rfl⟩
      have h2 := HNo.out
      rw [List.take_length] at h2
      exact h2 x h rfl
theorem inList_c (l : List Int) (v : Value) (x : Int) (w : World) (hr : Rd w v l) (hl : l.length ≤ 1000000) : Calls Tryz.prog 60 #[v, .int .i64 x] w fun e w' => e = .returned (.bool (decide (x ∈ l))) ∧ w' = w := by
  have HR := hid hr
  obtain ⟨a, cap, rfl, _⟩ := hr
  go_enter Tryz.func60, Tryz.ntmps60
  go_wp2_with fail
  refine (placeOf_c l _ x w HR.out hl).mono ?_
  rintro e w1 ⟨r, rfl, h, rfl⟩
  rcases h with ⟨h1, h2, h3⟩ | ⟨h1, rfl⟩
  · have HD := hid (decide_eq_true h1)
    clear h1
    go_wp2_with fail
    go_ret
    rw [HD.out]
    exact ⟨rfl, rfl⟩
  · have HD := hid (decide_eq_false h1)
    clear h1
    go_wp2_with fail
    go_ret
    rw [HD.out]
    exact ⟨rfl, rfl⟩
/-- A function is reached. -/
theorem funs_rc {m : Img} {x : Int} (hok : imageOk m = true) (h : x ∈ funsL m) : ∃ p : Nat, x = p ∧ p < m.code.length ∧ Rc (Gm m.code true) [m.entry] p := by
  have hb := imageOk_bd hok
  have he0 := hb.e0
  have he1 := hb.e1
  unfold funsL at h
  rcases List.mem_cons.1 h with rfl | h
  · exact ⟨m.entry.toNat, by omega, by omega, .start _ (by rw [show ((m.entry.toNat : Nat) : Int) = m.entry by omega]; simp)⟩
  · unfold othersL at h
    have h1 := (List.mem_filter.1 h).1
    unfold calledL at h1
    obtain ⟨q, hq, rfl⟩ := List.mem_map.1 h1
    have h2 := of_decide_eq_true (List.mem_filter.1 hq).2
    obtain ⟨y, hy, hc⟩ := List.mem_filterMap.1 h2
    obtain ⟨p, rfl, _, hrc, _⟩ := reachL_mem hy
    unfold callAt at hc
    rw [Int.toNat_natCast] at hc
    refine ⟨q, rfl, List.mem_range.1 (List.mem_filter.1 hq).1, .step p q hrc ?_⟩
    unfold Gm
    cases hr : readP m.code p with
    | none => rw [hr] at hc; cases hc
    | some i =>
      rw [hr] at hc
      simp only at hc ⊢
      split at hc
      · rename_i hcc
        have := Option.some.inj hc
        rw [if_pos (by first | exact ⟨rfl, hcc.1⟩ | exact ⟨trivial, hcc.1⟩ | exact hcc.1), List.mem_append]
        exact .inr (by simp [this])
      · cases hc
theorem rc_sub {code : List Int} {S : List Int} {p q : Nat} (hp : Rc (Gm code true) S p) (h : Rc (Gm code false) [(p : Int)] q) : Rc (Gm code true) S q := by
  induction h with
  | start r hr =>
    obtain rfl : r = p := by have := List.mem_singleton.1 hr; omega
    exact hp
  | step a b _ hb ih =>
    refine .step a b ih ?_
    unfold Gm at hb ⊢
    cases hr : readP code a with
    | none => rw [hr] at hb; cases hb
    | some i =>
      rw [hr] at hb
      simp only at hb ⊢
      rw [List.mem_append] at hb ⊢
      rcases hb with h | h
      · exact .inl h
      · simp at h
end Go.Proofs.YtihhpgklpichgaaGreat.Wk
namespace Go.Proofs.YtihhpgklpichgaaGreat.Wk
open Go.RowKit Pl Ft Mm In C2 Im Sw

noncomputable def isFunP (m : Img) (x : Int) : Bool := imageOk m && decide (x ∈ funsL m)
def FwNo (w : World) (e : Ending) (w' : World) : Prop := e = .returned (.tuple #[.agg #[.pointer none, .slice none 0 0], .bool false]) ∧ Below w.heap.size w w'
set_option maxRecDepth 100000 in
set_option maxHeartbeats 4000000 in
theorem funsWith_no (m : Img) (vc vd vn : Value) (x : Int) (w : World) (h : ICells w vc vd vn m) (hs : Sm m) (hcc : ∀ a n c, vc = .slice a n c → n ≤ c) (hf : isFunP m x = false) :
    Calls Tryz.prog 56 #[imgVal vc vd vn m, .int .i64 x] w (FwNo w) := by
  obtain ⟨ac, cc, rfl⟩ := rd_slice h.c
  obtain ⟨ad, cd, rfl⟩ := rd_slice h.d
  obtain ⟨an, cn, rfl⟩ := nrd_slice h.n
  have HI := hid h
  have HS := hid hs
  have HCap := hid hcc
  have HF := hid hf
  clear h hs hcc hf
  have hV : imgVal (.slice ac m.code.length cc) (.slice ad m.data.length cd) (.slice an m.names.length cn) m = .agg #[.slice ac m.code.length cc, .int .i64 m.entry, .int .i64 m.room, .slice ad m.data.length cd, .slice an m.names.length cn] := rfl
  have HV := hid hV
  rw [hV]
  clear hV
  obtain ⟨w0, hw0, hr0, hb0, hz0⟩ := new_ex w 30 #[.slice ac m.code.length cc, .int .i64 m.entry, .int .i64 m.room, .slice ad m.data.length cd, .slice an m.names.length cn]
  obtain ⟨w1, hw1, hr1, hb1, hz1⟩ := new_ex w0 59 #[.pointer none, .slice none 0 0]
  have HB1 := hid (hb0.trans (hb1.mono (Nat.le_of_lt hz0)))
  have HX1 := hid (hr0.on hb1)
  have HR1 := hid hr1
  have x0 := HX1.out.cell 0
  have x1 := HX1.out.cell 1
  have x2 := HX1.out.cell 2
  have x3 := HX1.out.cell 3
  have x4 := HX1.out.cell 4
  simp at x0 x1 x2 x3 x4
  clear hr0 hb0 hr1 hb1
  go_enter Tryz.func56, Tryz.ntmps56
  go_wp2_with fail
  clear hw0 hw1 x0 x1 x2 x3 x4
  obtain ⟨g1, hg1⟩ : ∃ g, w0.heap.size = g := ⟨_, rfl⟩
  have HG := hid (show w.heap.size < g1 ∧ g1 < w1.heap.size by omega)
  rw [hg1] at HR1
  try rw [hg1]
  clear hg1 hz0 hz1
  rw [← HV.out]
  cases h1 : imageOk m
  · refine (funsIn_no m _ _ _ w1 (HI.out.on HB1.out) HS.out h1).mono ?_
    rintro e w2 ⟨rfl, hb2⟩
    clear h1
    have HB3 := hid (HB1.out.trans (hb2.mono HB1.out.size))
    have HR3 := hid (HR1.out.on hb2)
    have hlt2 := HR3.out.lt
    have z0 := HR3.out.cell 0
    have z1 := HR3.out.cell 1
    have hf := HR3.out.free
    simp at z0 z1
    clear hb2
    go_wp2_with fail
    clear z0 z1 hf
    refine bodyPost_ret (v := .tuple #[.agg #[.pointer none, .slice none 0 0], .bool false]) ?_ rfl ?_
    · first
        | exact res_cell_tmp Tryz.results56 _ _ g1 #[.pointer none, .slice none 0 0] _ rfl (((HR3.out.set 0 (.pointer none)).set 1 (.slice none 0 0)).alloc (.cells #[.pointer none, .slice none 0 0] 59)) Tryz.underlying59 size_funs
        | exact res_cell_tmp Tryz.results56 _ _ g1 #[.pointer none, .slice none 0 0] _ rfl (((HR3.out.alloc (.cells #[.pointer none, .slice none 0 0] 59)).set 0 (.pointer none)).set 1 (.slice none 0 0)) Tryz.underlying59 size_funs
    have hg := HG.out
    first
      | exact ⟨rfl, ((HB3.out.setCell (p := ⟨g1, 0, none⟩) (by simp only; omega) _).setCell (p := ⟨g1, 1, none⟩) (by simp only; omega) _).alloc (by simp [World.setCell]; exact HB3.out.size) _⟩
      | exact ⟨rfl, ((HB3.out.alloc HB3.out.size _).setCell (p := ⟨g1, 0, none⟩) (by simp only; omega) _).setCell (p := ⟨g1, 1, none⟩) (by simp only; omega) _⟩
  · have hx : x ∉ funsL m := fun hm => by have h := HF.out; unfold isFunP at h; rw [h1, decide_eq_true hm] at h; cases h
    have HX := hid hx
    have hfl := funsL_len m
    have hl2 := (imageOk_bd h1).c1
    refine (funsIn_yes m _ _ _ w1 (HI.out.on HB1.out) HS.out HCap.out h1).mono ?_
    rintro e w2 ⟨gw, gm, ms, vl, rfl, _, _, _, _, hown, hb2, _, _⟩
    obtain ⟨fl, hfs⟩ : ∃ l, funsL m = l := ⟨_, rfl⟩
    rw [hfs] at hown hfl
    have HFl := hid hfs
    obtain ⟨sl, cl, rfl⟩ := own_slice hown
    clear h1 hx hfs
    obtain ⟨w3, hw3, hr3, hb3, _⟩ := new_ex w2 59 #[.pointer (some ⟨gw, 0, none⟩), .slice sl fl.length cl]
    have HO3 := hid (own_on hown hb3)
    have HB3 := hid (HB1.out.trans ((hb2.trans (hb3.mono hb2.size)).mono HB1.out.size))
    have HR3 := hid (HR1.out.on (hb2.trans (hb3.mono hb2.size)))
    have y0 := hr3.cell 0
    have y1 := hr3.cell 1
    simp at y0 y1
    clear hb2 hb3 hown hr3
    go_wp2_with fail
    refine (contains_c fl _ x w3 (.of_own HO3.out) (by omega)).mono ?_
    rintro e w4 ⟨rfl, rfl⟩
    rw [decide_eq_false (by rw [← HFl.out]; exact HX.out)]
    have z0 := HR3.out.cell 0
    have z1 := HR3.out.cell 1
    have hf := HR3.out.free
    simp at z0 z1
    clear hw3
    go_wp2_with fail
    clear z0 z1 hf
    refine bodyPost_ret (v := .tuple #[.agg #[.pointer none, .slice none 0 0], .bool false]) ?_ rfl ?_
    · exact res_cell_tmp Tryz.results56 _ _ g1 #[.pointer none, .slice none 0 0] _ rfl ((HR3.out.set 0 (.pointer none)).set 1 (.slice none 0 0)) Tryz.underlying59 size_funs
    exact ⟨rfl, (HB3.out.setCell (p := ⟨g1, 0, none⟩) (by have := HG.out; simp only; omega) _).setCell (p := ⟨g1, 1, none⟩) (by have := HG.out; simp only; omega) _⟩
def FwYes (m : Img) (vc : Value) (w : World) (e : Ending) (w' : World) : Prop :=
  ∃ (gw gm : Nat) (ms : List Nat) (vl : Value), e = .returned (.tuple #[.agg #[.pointer (some ⟨gw, 0, none⟩), vl], .bool true]) ∧ Row w' gw 88 #[vc, .map (some gm), .bool (lostIn m.code ms)] ∧ MapAt w' gm m.code (insOf m.code ms) ∧ (∀ p, p ∈ ms ↔ Rc (Gw m.code) [m.entry] p) ∧ (∃ s c, vl = .slice s (funsL m).length c) ∧ Below w.heap.size w w'
set_option maxRecDepth 100000 in
set_option maxHeartbeats 4000000 in
theorem funsWith_yes (m : Img) (vc vd vn : Value) (x : Int) (w : World) (h : ICells w vc vd vn m) (hs : Sm m) (hcc : ∀ a n c, vc = .slice a n c → n ≤ c) (h1 : imageOk m = true) (hx : x ∈ funsL m) :
    Calls Tryz.prog 56 #[imgVal vc vd vn m, .int .i64 x] w (FwYes m vc w) := by
  obtain ⟨ac, cc, rfl⟩ := rd_slice h.c
  obtain ⟨ad, cd, rfl⟩ := rd_slice h.d
  obtain ⟨an, cn, rfl⟩ := nrd_slice h.n
  have HI := hid h
  have HS := hid hs
  have HCap := hid hcc
  have H1 := hid h1
  have HX := hid hx
  have hfl := funsL_len m
  have hl2 := (imageOk_bd h1).c1
  clear h hs hcc h1 hx
  have hV : imgVal (.slice ac m.code.length cc) (.slice ad m.data.length cd) (.slice an m.names.length cn) m = .agg #[.slice ac m.code.length cc, .int .i64 m.entry, .int .i64 m.room, .slice ad m.data.length cd, .slice an m.names.length cn] := rfl
  have HV := hid hV
  rw [hV]
  clear hV
  obtain ⟨w0, hw0, hr0, hb0, hz0⟩ := new_ex w 30 #[.slice ac m.code.length cc, .int .i64 m.entry, .int .i64 m.room, .slice ad m.data.length cd, .slice an m.names.length cn]
  obtain ⟨w1, hw1, hr1, hb1, hz1⟩ := new_ex w0 59 #[.pointer none, .slice none 0 0]
  have HB1 := hid (hb0.trans (hb1.mono (Nat.le_of_lt hz0)))
  have HX1 := hid (hr0.on hb1)
  have HR1 := hid hr1
  have x0 := HX1.out.cell 0
  have x1 := HX1.out.cell 1
  have x2 := HX1.out.cell 2
  have x3 := HX1.out.cell 3
  have x4 := HX1.out.cell 4
  simp at x0 x1 x2 x3 x4
  clear hr0 hb0 hr1 hb1
  go_enter Tryz.func56, Tryz.ntmps56
  go_wp2_with fail
  clear hw0 hw1 x0 x1 x2 x3 x4
  obtain ⟨g1, hg1⟩ : ∃ g, w0.heap.size = g := ⟨_, rfl⟩
  have HG := hid (show w.heap.size < g1 ∧ g1 < w1.heap.size by omega)
  rw [hg1] at HR1
  try rw [hg1]
  clear hg1 hz0 hz1
  rw [← HV.out]
  refine (funsIn_yes m _ _ _ w1 (HI.out.on HB1.out) HS.out HCap.out H1.out).mono ?_
  rintro e w2 ⟨gw, gm, ms, vl, rfl, hrow, hmap, hmem, hnd, hown, hb2, _, _⟩
  obtain ⟨fl, hfs⟩ : ∃ l, funsL m = l := ⟨_, rfl⟩
  rw [hfs] at hown hfl
  have HFl := hid hfs
  obtain ⟨sl, cl, rfl⟩ := own_slice hown
  obtain ⟨w3, hw3, hr3, hb3, _⟩ := new_ex w2 59 #[.pointer (some ⟨gw, 0, none⟩), .slice sl fl.length cl]
  have HO3 := hid (own_on hown hb3)
  have HB3 := hid (HB1.out.trans ((hb2.trans (hb3.mono hb2.size)).mono HB1.out.size))
  have HR3 := hid (HR1.out.on (hb2.trans (hb3.mono hb2.size)))
  have HRow := hid (hrow.on hb3)
  have HMap := hid (hmap.on hb3)
  have HMem := hid hmem
  have y0 := hr3.cell 0
  have y1 := hr3.cell 1
  simp at y0 y1
  clear hb2 hb3 hown hr3 hrow hmap hmem hnd hfs
  go_wp2_with fail
  refine (contains_c fl _ x w3 (.of_own HO3.out) (by omega)).mono ?_
  rintro e w4 ⟨rfl, rfl⟩
  rw [decide_eq_true (by rw [← HFl.out]; exact HX.out)]
  have z0 := HR3.out.cell 0
  have z1 := HR3.out.cell 1
  have hf := HR3.out.free
  simp at z0 z1
  clear hw3
  go_wp2_with fail
  clear z0 z1 hf y0 y1
  refine bodyPost_ret (v := .tuple #[.agg #[.pointer (some ⟨gw, 0, none⟩), .slice sl fl.length cl], .bool true]) ?_ rfl ?_
  · exact res_cell_tmp Tryz.results56 _ _ g1 #[.pointer (some ⟨gw, 0, none⟩), .slice sl fl.length cl] _ rfl ((HR3.out.set 0 (.pointer (some ⟨gw, 0, none⟩))).set 1 (.slice sl fl.length cl)) Tryz.underlying59 size_funs
  have hne : gw ≠ g1 := fun h => by
    have h1 := HRow.out
    rw [h] at h1
    have := h1.symm.trans HR3.out
    simp at this
  have hnm : gm ≠ g1 := fun h => by
    have h1 := HMap.out
    unfold MapAt at h1
    rw [h] at h1
    have := h1.symm.trans HR3.out
    simp at this
  exact ⟨gw, gm, ms, _, rfl, (HRow.out.far hne _).far hne _, (HMap.out.set (by simpa using hnm) _).set (by simpa using hnm) _, HMem.out, ⟨sl, cl, by rw [HFl.out]⟩, (HB3.out.setCell (p := ⟨g1, 0, none⟩) (by have := HG.out; simp only; omega) _).setCell (p := ⟨g1, 1, none⟩) (by have := HG.out; simp only; omega) _⟩
set_option maxRecDepth 100000 in
set_option maxHeartbeats 2000000 in
theorem isFun_c (m : Img) (vc vd vn : Value) (x : Int) (w : World) (h : ICells w vc vd vn m) (hs : Sm m) :
    Calls Tryz.prog 55 #[imgVal vc vd vn m, .int .i64 x] w fun e w' => e = .returned (.bool (isFunP m x)) ∧ Below w.heap.size w w' := by
  obtain ⟨ac, cc, rfl⟩ := rd_slice h.c
  obtain ⟨ad, cd, rfl⟩ := rd_slice h.d
  obtain ⟨an, cn, rfl⟩ := nrd_slice h.n
  have HI := hid h
  have HS := hid hs
  clear h hs
  obtain ⟨o, ho⟩ : ∃ o, isFunP m x = o := ⟨_, rfl⟩
  have HQ := hid ho
  rw [ho]
  clear ho
  have hV : imgVal (.slice ac m.code.length cc) (.slice ad m.data.length cd) (.slice an m.names.length cn) m = .agg #[.slice ac m.code.length cc, .int .i64 m.entry, .int .i64 m.room, .slice ad m.data.length cd, .slice an m.names.length cn] := rfl
  have HV := hid hV
  rw [hV]
  clear hV
  have HB1 := hid ((Below.refl w.heap.size w).alloc (Nat.le_refl _) (.cells #[.slice ac m.code.length cc, .int .i64 m.entry, .int .i64 m.room, .slice ad m.data.length cd, .slice an m.names.length cn] 30))
  have HX1 := hid (Row.new w 30 #[.slice ac m.code.length cc, .int .i64 m.entry, .int .i64 m.room, .slice ad m.data.length cd, .slice an m.names.length cn])
  have hw01 : w.heap.size < (w.alloc (.cells #[.slice ac m.code.length cc, .int .i64 m.entry, .int .i64 m.room, .slice ad m.data.length cd, .slice an m.names.length cn] 30)).heap.size := by simp
  go_enter Tryz.func55, Tryz.ntmps55
  go_wp2_with fail
  generalize w.alloc (.cells #[.slice ac m.code.length cc, .int .i64 m.entry, .int .i64 m.room, .slice ad m.data.length cd, .slice an m.names.length cn] 30) = w1 at HB1 HX1 hw01 ⊢
  rw [← HV.out]
  refine (validImage_c m _ _ _ w1 (HI.out.on HB1.out) HS.out).mono ?_
  rintro e w2 ⟨rfl, hb2⟩
  have HB2 := hid (HB1.out.trans (hb2.mono HB1.out.size))
  have HX2 := hid (HX1.out.on hb2)
  have hz2 := hb2.size
  clear hb2
  cases h1 : imageOk m
  · obtain rfl : o = false := by rw [← HQ.out, isFunP, h1]; rfl
    clear h1
    go_wp2_with fail
    go_ret
    exact ⟨rfl, HB2.out⟩
  · have HO := hid (show o = decide (x ∈ funsL m) by rw [← HQ.out, isFunP, h1]; rfl)
    have H1 := hid h1
    have hfl := funsL_len m
    have hl2 := (imageOk_bd h1).c1
    have x0 := HX2.out.cell 0
    have x1 := HX2.out.cell 1
    have x2 := HX2.out.cell 2
    have x3 := HX2.out.cell 3
    have x4 := HX2.out.cell 4
    simp at x0 x1 x2 x3 x4
    have hw02 : w.heap.size < w2.heap.size := by omega
    clear h1
    go_wp2_with fail
    rw [← HV.out]
    refine (sFuns_c m _ _ _ w2 (HI.out.on HB2.out) H1.out).mono ?_
    rintro e w3 ⟨v3, rfl, hown, hb3⟩
    have HB3 := hid (HB2.out.trans (hb3.mono HB2.out.size))
    obtain ⟨fl, hfs⟩ : ∃ l, funsL m = l := ⟨_, rfl⟩
    rw [hfs] at hown hfl HO
    have HOw := hid hown
    obtain ⟨s3, c3, rfl⟩ := own_slice hown
    clear hb3 hown hfs
    go_wp2_with fail
    refine (inList_c fl _ x w3 (.of_own HOw.out) (by omega)).mono ?_
    rintro e w4 ⟨rfl, rfl⟩
    rw [← HO.out]
    go_wp2_with fail
    go_ret
    exact ⟨rfl, HB3.out⟩
noncomputable def bodyP (m : Img) (x : Int) : List Int := if isFunP m x = true then reachL m.code [x] false else []
theorem bodyP_len (m : Img) (x : Int) : (bodyP m x).length ≤ 1000000 := by
  unfold bodyP
  split
  · rename_i h
    have h1 : imageOk m = true := by unfold isFunP at h; exact (Bool.and_eq_true_iff.1 h).1
    have := (imageOk_bd h1).c1
    have := reachL_len m.code [x] false
    omega
  · simp
set_option maxRecDepth 100000 in
set_option maxHeartbeats 4000000 in
theorem bodyOf_c (m : Img) (vc vd vn : Value) (x : Int) (w : World) (h : ICells w vc vd vn m) (hs : Sm m) (hcc : ∀ a n c, vc = .slice a n c → n ≤ c) :
    Calls Tryz.prog 25 #[imgVal vc vd vn m, .int .i64 x] w (WaysPost2 (bodyP m x) w) := by
  obtain ⟨ac, cc, rfl⟩ := rd_slice h.c
  obtain ⟨ad, cd, rfl⟩ := rd_slice h.d
  obtain ⟨an, cn, rfl⟩ := nrd_slice h.n
  have HI := hid h
  have HS := hid hs
  have HCap := hid hcc
  clear h hs hcc
  obtain ⟨o, ho⟩ : ∃ o, bodyP m x = o := ⟨_, rfl⟩
  have HQ := hid ho
  rw [ho]
  clear ho
  have hV : imgVal (.slice ac m.code.length cc) (.slice ad m.data.length cd) (.slice an m.names.length cn) m = .agg #[.slice ac m.code.length cc, .int .i64 m.entry, .int .i64 m.room, .slice ad m.data.length cd, .slice an m.names.length cn] := rfl
  have HV := hid hV
  rw [hV]
  clear hV
  have HB1 := hid ((Below.refl w.heap.size w).alloc (Nat.le_refl _) (.cells #[.slice ac m.code.length cc, .int .i64 m.entry, .int .i64 m.room, .slice ad m.data.length cd, .slice an m.names.length cn] 30))
  have HX1 := hid (Row.new w 30 #[.slice ac m.code.length cc, .int .i64 m.entry, .int .i64 m.room, .slice ad m.data.length cd, .slice an m.names.length cn])
  have hw01 : w.heap.size < (w.alloc (.cells #[.slice ac m.code.length cc, .int .i64 m.entry, .int .i64 m.room, .slice ad m.data.length cd, .slice an m.names.length cn] 30)).heap.size := by simp
  go_enter Tryz.func25, Tryz.ntmps25
  go_wp2_with fail
  generalize w.alloc (.cells #[.slice ac m.code.length cc, .int .i64 m.entry, .int .i64 m.room, .slice ad m.data.length cd, .slice an m.names.length cn] 30) = w1 at HB1 HX1 hw01 ⊢
  rw [← HV.out]
  cases hf : isFunP m x
  · obtain rfl : o = [] := by rw [← HQ.out, bodyP, hf]; rfl
    refine (funsWith_no m _ _ _ x w1 (HI.out.on HB1.out) HS.out HCap.out hf).mono ?_
    rintro e w2 ⟨rfl, hb2⟩
    have HB2 := hid (HB1.out.trans (hb2.mono HB1.out.size))
    clear hb2 hf
    go_wp2_with fail
    go_ret
    exact ⟨_, rfl, World.ownsRow_nil _ _ _ _, HB2.out.alloc HB2.out.size _⟩
  · have HO := hid (show o = reachL m.code [x] false by rw [← HQ.out, bodyP, hf]; rfl)
    have h1 : imageOk m = true := by unfold isFunP at hf; exact (Bool.and_eq_true_iff.1 hf).1
    have hx : x ∈ funsL m := by unfold isFunP at hf; exact of_decide_eq_true (Bool.and_eq_true_iff.1 hf).2
    have HBd := hid (imageOk_bd h1)
    have hl2 := HBd.out.c1
    obtain ⟨p, rfl, hpl, hrc⟩ := funs_rc h1 hx
    have HRc := hid hrc
    refine (funsWith_yes m _ _ _ p w1 (HI.out.on HB1.out) HS.out HCap.out h1 hx).mono ?_
    rintro e w2 ⟨gw, gm, ms, vl, rfl, hrow, hmap, hmem, ⟨sl, cl, rfl⟩, hb2⟩
    obtain ⟨fn, hfn⟩ : ∃ k, (funsL m).length = k := ⟨_, rfl⟩
    rw [hfn]
    obtain ⟨w3, hw3, hr3, hb3, hz3⟩ := new_ex w2 59 #[.pointer (some ⟨gw, 0, none⟩), .slice sl fn cl]
    have HB3 := hid (HB1.out.trans ((hb2.trans (hb3.mono hb2.size)).mono HB1.out.size))
    have HRow := hid (hrow.on hb3)
    have HMap := hid (hmap.on hb3)
    have HMem := hid hmem
    have HR3 := hid hr3
    have hcl : m.code.length ≤ cc := HCap.out _ _ _ rfl
    have HIn := hid (show ∀ q, Rc (Gm m.code false) [(p : Int)] q → (q ∈ insOf m.code ms ↔ (readP m.code q).isSome = true) from fun q hq => by
      rw [mem_insOf]
      exact ⟨fun h => h.2, fun h => ⟨(gw_gm hmem q).2 (rc_sub hrc hq), h⟩⟩)
    clear hf h1 hx hrc hrow hmap hmem hb2 hb3 hr3 hfn
    have y0 := HR3.out.cell 0
    have y1 := HR3.out.cell 1
    simp at y0 y1
    go_wp2_with fail
    clear hw3
    refine (body_c m.code ac cc _ gw gm p (insOf m.code ms) w3 (HI.out.on HB3.out).c hcl HBd.out.cb hl2 (by omega) HRow.out HMap.out HIn.out).mono ?_
    rintro e w4 ⟨v4, rfl, hown, hb4⟩
    rw [← HO.out] at hown
    have HOw := hid (own_mono hown HB3.out.size)
    have HB4 := hid (HB3.out.trans (hb4.mono HB3.out.size))
    obtain ⟨s4, c4, rfl⟩ := own_slice hown
    clear hown hb4
    go_wp2_with fail
    go_ret
    exact ⟨_, rfl, HOw.out, HB4.out⟩
set_option maxRecDepth 100000 in
set_option maxHeartbeats 4000000 in
theorem specBodyOf_c (m : Img) (vc vd vn : Value) (x : Int) (w : World) (h : ICells w vc vd vn m) (hs : Sm m) :
    Calls Tryz.prog 24 #[imgVal vc vd vn m, .int .i64 x] w (WaysPost2 (bodyP m x) w) := by
  obtain ⟨ac, cc, rfl⟩ := rd_slice h.c
  obtain ⟨ad, cd, rfl⟩ := rd_slice h.d
  obtain ⟨an, cn, rfl⟩ := nrd_slice h.n
  have HI := hid h
  have HS := hid hs
  clear h hs
  obtain ⟨o, ho⟩ : ∃ o, bodyP m x = o := ⟨_, rfl⟩
  have HQ := hid ho
  rw [ho]
  clear ho
  have hV : imgVal (.slice ac m.code.length cc) (.slice ad m.data.length cd) (.slice an m.names.length cn) m = .agg #[.slice ac m.code.length cc, .int .i64 m.entry, .int .i64 m.room, .slice ad m.data.length cd, .slice an m.names.length cn] := rfl
  have HV := hid hV
  rw [hV]
  clear hV
  have HB1 := hid ((Below.refl w.heap.size w).alloc (Nat.le_refl _) (.cells #[.slice ac m.code.length cc, .int .i64 m.entry, .int .i64 m.room, .slice ad m.data.length cd, .slice an m.names.length cn] 30))
  have HX1 := hid (Row.new w 30 #[.slice ac m.code.length cc, .int .i64 m.entry, .int .i64 m.room, .slice ad m.data.length cd, .slice an m.names.length cn])
  have hw01 : w.heap.size < (w.alloc (.cells #[.slice ac m.code.length cc, .int .i64 m.entry, .int .i64 m.room, .slice ad m.data.length cd, .slice an m.names.length cn] 30)).heap.size := by simp
  go_enter Tryz.func24, Tryz.ntmps24
  go_wp2_with fail
  generalize w.alloc (.cells #[.slice ac m.code.length cc, .int .i64 m.entry, .int .i64 m.room, .slice ad m.data.length cd, .slice an m.names.length cn] 30) = w1 at HB1 HX1 hw01 ⊢
  rw [← HV.out]
  refine (isFun_c m _ _ _ x w1 (HI.out.on HB1.out) HS.out).mono ?_
  rintro e w2 ⟨rfl, hb2⟩
  have HB2 := hid (HB1.out.trans (hb2.mono HB1.out.size))
  have HX2 := hid (HX1.out.on hb2)
  have hz2 := hb2.size
  clear hb2
  cases hf : isFunP m x
  · obtain rfl : o = [] := by rw [← HQ.out, bodyP, hf]; rfl
    clear hf
    go_wp2_with fail
    go_ret
    exact ⟨_, rfl, World.ownsRow_nil _ _ _ _, HB2.out⟩
  · have HO := hid (show o = reachL m.code [x] false by rw [← HQ.out, bodyP, hf]; rfl)
    have h1 : imageOk m = true := by unfold isFunP at hf; exact (Bool.and_eq_true_iff.1 hf).1
    have hx : x ∈ funsL m := by unfold isFunP at hf; exact of_decide_eq_true (Bool.and_eq_true_iff.1 hf).2
    have HBd := hid (imageOk_bd h1)
    have hl2 := HBd.out.c1
    obtain ⟨p, rfl, hpl, _⟩ := funs_rc h1 hx
    have x0 := HX2.out.cell 0
    simp at x0
    have hw02 : w.heap.size < w2.heap.size := by omega
    clear hf h1 hx
    have HB3 := hid (HB2.out.alloc HB2.out.size (.cells #[.int .i64 p] 3))
    have HRs := hid (Rd.of_own (own_lit w2 [(p : Int)] #[.int .i64 p] rfl (by simp) 1 rfl))
    go_wp2_with fail
    refine (walk_c m.code [(p : Int)] false ac _ cc _ _ (HI.out.on HB3.out).c HRs.out HBd.out.cb hl2 (by omega) (fun q hq => by obtain rfl : q = (p : Int) := (by simpa using hq); omega) (by simp)).mono ?_
    rintro e w3 ⟨v, ms, rfl, hown, hms, hb3⟩
    have HB4 := hid (HB3.out.trans (hb3.mono HB3.out.size))
    rw [trues_reach hms, ← HO.out] at hown
    have HOw := hid (own_mono hown HB3.out.size)
    obtain ⟨s, c, rfl⟩ := own_slice hown
    clear hown hms hb3
    go_wp2_with fail
    go_ret
    exact ⟨_, rfl, HOw.out, HB4.out⟩
set_option maxRecDepth 100000 in
set_option maxHeartbeats 2000000 in
theorem wcalledIn_c (code : List Int) (ac : Option Addr) (cc : Nat) (lb : Value) (gw gm at_ : Nat) (ms0 : List Nat) (w : World) (hr : Rd w (.slice ac code.length cc) code) (hcap : code.length ≤ cc) (hby : code.all isByte = true) (hlen : code.length ≤ 2000) (hat : at_ ≤ 2000)
    (hw : Row w gw 88 #[.slice ac code.length cc, .map (some gm), lb]) (hm : MapAt w gm code ms0) (hms0 : ∀ p, Rc (Gm code false) [(at_ : Int)] p → (p ∈ ms0 ↔ (readP code p).isSome = true)) (hms1 : ∀ p ∈ ms0, (readP code p).isSome = true) :
    Calls Tryz.prog 59 #[.pointer (some ⟨gw, 0, none⟩), .int .i64 at_] w (WaysPost2 (calledL code (reachL code [(at_ : Int)] false)) w) := by
  have HW := hid hw
  have HM := hid hm
  have HR := hid hr
  have HBy := hid hby
  have HMs := hid hms0
  have HM1 := hid hms1
  clear hr hby hw hm hms0 hms1
  go_enter Tryz.func59, Tryz.ntmps59
  go_wp2_with fail
  refine (body_c code ac cc lb gw gm at_ ms0 w HR.out hcap HBy.out hlen hat HW.out HM.out HMs.out).mono ?_
  rintro e w1 ⟨v1, rfl, hown, hb1⟩
  have hpl : ∀ x ∈ reachL code [(at_ : Int)] false, ∃ p : Nat, x = p ∧ p ∈ ms0 := fun x hx => by
    obtain ⟨p, e, _, h1, h2⟩ := reachL_mem hx
    exact ⟨p, e, (HMs.out p h1).2 h2⟩
  have hll := reachL_len code [(at_ : Int)] false
  obtain ⟨bl, hbl⟩ : ∃ l, reachL code [(at_ : Int)] false = l := ⟨_, rfl⟩
  rw [hbl] at hown hpl hll
  have HBl := hid hbl
  have HPl := hid hpl
  have HOw := hid hown
  have HB1 := hid hb1
  have HW1 := hid (HW.out.on hb1)
  have HMp1 := hid (HM.out.on hb1)
  obtain ⟨s1, c1, rfl⟩ := own_slice hown
  clear hown hb1 hbl hpl
  go_wp2_with fail
  refine (calledAt_c code ac cc lb gw gm ms0 bl _ w1 HW1.out HMp1.out (.of_own HOw.out) HPl.out HM1.out (by omega)).mono ?_
  rintro e w2 ⟨v2, rfl, hown, hb2⟩
  obtain ⟨cl, hcl⟩ : ∃ l, calledL code bl = l := ⟨_, rfl⟩
  rw [hcl] at hown
  have HCl := hid hcl
  have HO2 := hid (own_mono hown HB1.out.size)
  have HB2 := hid (HB1.out.trans (hb2.mono HB1.out.size))
  obtain ⟨s2, c2, rfl⟩ := own_slice hown
  clear hown hb2 hcl
  go_wp2_with fail
  go_ret
  rw [HBl.out, HCl.out]
  exact ⟨_, rfl, HO2.out, HB2.out⟩
noncomputable def calledP (m : Img) (x : Int) : List Int := if isFunP m x = true then calledL m.code (reachL m.code [x] false) else []
theorem calledP_len (m : Img) (x : Int) : (calledP m x).length ≤ 1000000 := by
  unfold calledP
  split
  · rename_i h
    have h1 : imageOk m = true := by unfold isFunP at h; exact (Bool.and_eq_true_iff.1 h).1
    have := (imageOk_bd h1).c1
    have := calledL_len m.code (reachL m.code [x] false)
    omega
  · simp
set_option maxRecDepth 100000 in
set_option maxHeartbeats 4000000 in
theorem calledIn_c (m : Img) (vc vd vn : Value) (x : Int) (w : World) (h : ICells w vc vd vn m) (hs : Sm m) (hcc : ∀ a n c, vc = .slice a n c → n ≤ c) :
    Calls Tryz.prog 27 #[imgVal vc vd vn m, .int .i64 x] w (WaysPost2 (calledP m x) w) := by
  obtain ⟨ac, cc, rfl⟩ := rd_slice h.c
  obtain ⟨ad, cd, rfl⟩ := rd_slice h.d
  obtain ⟨an, cn, rfl⟩ := nrd_slice h.n
  have HI := hid h
  have HS := hid hs
  have HCap := hid hcc
  clear h hs hcc
  obtain ⟨o, ho⟩ : ∃ o, calledP m x = o := ⟨_, rfl⟩
  have HQ := hid ho
  rw [ho]
  clear ho
  have hV : imgVal (.slice ac m.code.length cc) (.slice ad m.data.length cd) (.slice an m.names.length cn) m = .agg #[.slice ac m.code.length cc, .int .i64 m.entry, .int .i64 m.room, .slice ad m.data.length cd, .slice an m.names.length cn] := rfl
  have HV := hid hV
  rw [hV]
  clear hV
  have HB1 := hid ((Below.refl w.heap.size w).alloc (Nat.le_refl _) (.cells #[.slice ac m.code.length cc, .int .i64 m.entry, .int .i64 m.room, .slice ad m.data.length cd, .slice an m.names.length cn] 30))
  have HX1 := hid (Row.new w 30 #[.slice ac m.code.length cc, .int .i64 m.entry, .int .i64 m.room, .slice ad m.data.length cd, .slice an m.names.length cn])
  have hw01 : w.heap.size < (w.alloc (.cells #[.slice ac m.code.length cc, .int .i64 m.entry, .int .i64 m.room, .slice ad m.data.length cd, .slice an m.names.length cn] 30)).heap.size := by simp
  go_enter Tryz.func27, Tryz.ntmps27
  go_wp2_with fail
  generalize w.alloc (.cells #[.slice ac m.code.length cc, .int .i64 m.entry, .int .i64 m.room, .slice ad m.data.length cd, .slice an m.names.length cn] 30) = w1 at HB1 HX1 hw01 ⊢
  rw [← HV.out]
  cases hf : isFunP m x
  · obtain rfl : o = [] := by rw [← HQ.out, calledP, hf]; rfl
    refine (funsWith_no m _ _ _ x w1 (HI.out.on HB1.out) HS.out HCap.out hf).mono ?_
    rintro e w2 ⟨rfl, hb2⟩
    have HB2 := hid (HB1.out.trans (hb2.mono HB1.out.size))
    clear hb2 hf
    go_wp2_with fail
    go_ret
    exact ⟨_, rfl, World.ownsRow_nil _ _ _ _, HB2.out.alloc HB2.out.size _⟩
  · have HO := hid (show o = calledL m.code (reachL m.code [x] false) by rw [← HQ.out, calledP, hf]; rfl)
    have h1 : imageOk m = true := by unfold isFunP at hf; exact (Bool.and_eq_true_iff.1 hf).1
    have hx : x ∈ funsL m := by unfold isFunP at hf; exact of_decide_eq_true (Bool.and_eq_true_iff.1 hf).2
    have HBd := hid (imageOk_bd h1)
    have hl2 := HBd.out.c1
    obtain ⟨p, rfl, hpl, hrc⟩ := funs_rc h1 hx
    have HRc := hid hrc
    refine (funsWith_yes m _ _ _ p w1 (HI.out.on HB1.out) HS.out HCap.out h1 hx).mono ?_
    rintro e w2 ⟨gw, gm, ms, vl, rfl, hrow, hmap, hmem, ⟨sl, cl, rfl⟩, hb2⟩
    obtain ⟨fn, hfn⟩ : ∃ k, (funsL m).length = k := ⟨_, rfl⟩
    rw [hfn]
    obtain ⟨w3, hw3, hr3, hb3, hz3⟩ := new_ex w2 59 #[.pointer (some ⟨gw, 0, none⟩), .slice sl fn cl]
    have HB3 := hid (HB1.out.trans ((hb2.trans (hb3.mono hb2.size)).mono HB1.out.size))
    have HRow := hid (hrow.on hb3)
    have HMap := hid (hmap.on hb3)
    have HMem := hid hmem
    have HR3 := hid hr3
    have hcl : m.code.length ≤ cc := HCap.out _ _ _ rfl
    have HIn := hid (show ∀ q, Rc (Gm m.code false) [(p : Int)] q → (q ∈ insOf m.code ms ↔ (readP m.code q).isSome = true) from fun q hq => by
      rw [mem_insOf]
      exact ⟨fun h => h.2, fun h => ⟨(gw_gm hmem q).2 (rc_sub hrc hq), h⟩⟩)
    clear hf h1 hx hrc hrow hmap hmem hb2 hb3 hr3 hfn
    have y0 := HR3.out.cell 0
    have y1 := HR3.out.cell 1
    simp at y0 y1
    go_wp2_with fail
    clear hw3
    refine (wcalledIn_c m.code ac cc _ gw gm p (insOf m.code ms) w3 (HI.out.on HB3.out).c hcl HBd.out.cb hl2 (by omega) HRow.out HMap.out HIn.out (fun q hq => (mem_insOf.1 hq).2)).mono ?_
    rintro e w4 ⟨v4, rfl, hown, hb4⟩
    rw [← HO.out] at hown
    have HOw := hid (own_mono hown HB3.out.size)
    have HB4 := hid (HB3.out.trans (hb4.mono HB3.out.size))
    obtain ⟨s4, c4, rfl⟩ := own_slice hown
    clear hown hb4
    go_wp2_with fail
    go_ret
    exact ⟨_, rfl, HOw.out, HB4.out⟩
set_option maxRecDepth 100000 in
set_option maxHeartbeats 4000000 in
theorem specCalledIn_c (m : Img) (vc vd vn : Value) (x : Int) (w : World) (h : ICells w vc vd vn m) (hs : Sm m) :
    Calls Tryz.prog 26 #[imgVal vc vd vn m, .int .i64 x] w (WaysPost2 (calledP m x) w) := by
  obtain ⟨ac, cc, rfl⟩ := rd_slice h.c
  obtain ⟨ad, cd, rfl⟩ := rd_slice h.d
  obtain ⟨an, cn, rfl⟩ := nrd_slice h.n
  have HI := hid h
  have HS := hid hs
  clear h hs
  obtain ⟨o, ho⟩ : ∃ o, calledP m x = o := ⟨_, rfl⟩
  have HQ := hid ho
  rw [ho]
  clear ho
  have hV : imgVal (.slice ac m.code.length cc) (.slice ad m.data.length cd) (.slice an m.names.length cn) m = .agg #[.slice ac m.code.length cc, .int .i64 m.entry, .int .i64 m.room, .slice ad m.data.length cd, .slice an m.names.length cn] := rfl
  have HV := hid hV
  rw [hV]
  clear hV
  have HB1 := hid ((Below.refl w.heap.size w).alloc (Nat.le_refl _) (.cells #[.slice ac m.code.length cc, .int .i64 m.entry, .int .i64 m.room, .slice ad m.data.length cd, .slice an m.names.length cn] 30))
  have HX1 := hid (Row.new w 30 #[.slice ac m.code.length cc, .int .i64 m.entry, .int .i64 m.room, .slice ad m.data.length cd, .slice an m.names.length cn])
  have hw01 : w.heap.size < (w.alloc (.cells #[.slice ac m.code.length cc, .int .i64 m.entry, .int .i64 m.room, .slice ad m.data.length cd, .slice an m.names.length cn] 30)).heap.size := by simp
  go_enter Tryz.func26, Tryz.ntmps26
  go_wp2_with fail
  generalize w.alloc (.cells #[.slice ac m.code.length cc, .int .i64 m.entry, .int .i64 m.room, .slice ad m.data.length cd, .slice an m.names.length cn] 30) = w1 at HB1 HX1 hw01 ⊢
  rw [← HV.out]
  refine (isFun_c m _ _ _ x w1 (HI.out.on HB1.out) HS.out).mono ?_
  rintro e w2 ⟨rfl, hb2⟩
  have HB2 := hid (HB1.out.trans (hb2.mono HB1.out.size))
  have HX2 := hid (HX1.out.on hb2)
  have hz2 := hb2.size
  clear hb2
  cases hf : isFunP m x
  · obtain rfl : o = [] := by rw [← HQ.out, calledP, hf]; rfl
    clear hf
    go_wp2_with fail
    go_ret
    exact ⟨_, rfl, World.ownsRow_nil _ _ _ _, HB2.out⟩
  · have HO := hid (show o = calledL m.code (reachL m.code [x] false) by rw [← HQ.out, calledP, hf]; rfl)
    have h1 : imageOk m = true := by unfold isFunP at hf; exact (Bool.and_eq_true_iff.1 hf).1
    have hx : x ∈ funsL m := by unfold isFunP at hf; exact of_decide_eq_true (Bool.and_eq_true_iff.1 hf).2
    have HBd := hid (imageOk_bd h1)
    have hl2 := HBd.out.c1
    obtain ⟨p, rfl, hpl, _⟩ := funs_rc h1 hx
    have x0 := HX2.out.cell 0
    simp at x0
    have hw02 : w.heap.size < w2.heap.size := by omega
    clear hf h1 hx
    go_wp2_with fail
    refine (sCalledIn_c m.code ac cc p w2 (HI.out.on HB2.out).c HBd.out.cb hl2 (by omega) (by omega) (by omega)).mono ?_
    rintro e w3 ⟨v, rfl, hown, hb3⟩
    have HB4 := hid (HB2.out.trans (hb3.mono HB2.out.size))
    rw [← HO.out] at hown
    have HOw := hid (own_mono hown HB2.out.size)
    obtain ⟨s, c, rfl⟩ := own_slice hown
    clear hown hb3
    go_wp2_with fail
    go_ret
    exact ⟨_, rfl, HOw.out, HB4.out⟩
end Go.Proofs.YtihhpgklpichgaaGreat.Wk
/- The exact law of CalledIn: the walk. -/
namespace Go.Proofs.YtihhpgklpichgaaGreat.Wk
open Go.RowKit Pl Ft Mm In C2 Im Sw

set_option maxRecDepth 100000 in
set_option maxHeartbeats 2000000 in
theorem exactCalledIn_w (m : Img) (vc vd vn : Value) (x : Int) (w : World) (hc : Rd w vc m.code) (hd : Rd w vd m.data) (hn : NRd w vn m.names) (hw : Wide m) :
    Calls Tryz.prog 6 #[imgVal vc vd vn m, .int .i64 x] w fun e w' => e = .returned (.bool true) ∧ Below w.heap.size w w' := by
  have HC := hid hc
  have HD := hid hd
  have HN := hid hn
  have HW := hid hw
  clear hc hd hn hw
  have hV : imgVal vc vd vn m = .agg #[vc, .int .i64 m.entry, .int .i64 m.room, vd, vn] := rfl
  rw [hV]
  clear hV
  have hbl : (calledP m x).length ≤ 1000000 := calledP_len m x
  obtain ⟨bs, hbs⟩ : ∃ bs, calledP m x = bs := ⟨_, rfl⟩
  rw [hbs] at hbl
  have HBs := hid hbs
  clear hbs
  have HX0 := hid (Row.new w 25 #[vc, .int .i64 m.entry, .int .i64 m.room, vd, vn])
  have HB0 := hid ((Below.refl w.heap.size w).alloc (Nat.le_refl _) (.cells #[vc, .int .i64 m.entry, .int .i64 m.room, vd, vn] 25))
  go_enter Tryz.func6, Tryz.ntmps6
  go_wp2_with fail
  refine (szImage_c m vc vd vn _ _ (HC.out.on HB0.out) (HD.out.on HB0.out) (HN.out.on HB0.out) HW.out (by omega) (by omega)).mono ?_
  rintro e w1 ⟨y, rfl, hx1, hx0, hxp, hb1⟩
  have HB1 := hid (HB0.out.trans (hb1.mono HB0.out.size))
  have HX1 := hid (HX0.out.on hb1)
  have HP := hid hxp
  have hz1 := hb1.size
  simp only [World.size_alloc] at hz1
  clear hb1 hxp
  by_cases hx : 0 ≤ y
  case neg =>
    go_wp2_with fail
    go_ret
    exact ⟨rfl, HB1.out⟩
  have HS := hid (HP.out hx)
  have x0 := HX1.out.cell 0
  have x1 := HX1.out.cell 1
  have x2 := HX1.out.cell 2
  have x3 := HX1.out.cell 3
  have x4 := HX1.out.cell 4
  simp at x0 x1 x2 x3 x4
  go_wp2_with fail
  refine (toImage_c m vc vd vn _ (HC.out.on HB1.out) (HD.out.on HB1.out) (HN.out.on HB1.out) HS.out).mono ?_
  rintro e w2 ⟨ac, ad, an, rfl, hown2, hb2⟩
  have HO2 := hid hown2
  have HB2 := hid (HB1.out.trans (hb2.mono HB1.out.size))
  have HX2 := hid (HX1.out.on hb2)
  have hz2 := hb2.size
  clear hown2 hb2 x0 x1 x2 x3 x4
  go_wp2_with fail
  refine (specCalledIn_c m ac ad an x _ HO2.out.cells HS.out).mono ?_
  rintro e w3 ⟨v0, rfl, hown3, hb3⟩
  rw [HBs.out] at hown3
  have HV3 := hid hown3
  have HVlt := hid (fun g hg => (hown3.lt g hg).2)
  have HB3 := hid (HB2.out.trans (hb3.mono HB2.out.size))
  have HX3 := hid (HX2.out.on hb3)
  have hz3 := hb3.size
  clear hown3 hb3
  have x0 := HX3.out.cell 0
  have x1 := HX3.out.cell 1
  have x2 := HX3.out.cell 2
  have x3 := HX3.out.cell 3
  have x4 := HX3.out.cell 4
  simp at x0 x1 x2 x3 x4
  go_wp2_with fail
  refine (toImage_c m vc vd vn _ (HC.out.on HB3.out) (HD.out.on HB3.out) (HN.out.on HB3.out) HS.out).mono ?_
  rintro e w4 ⟨bc, bd, bn, rfl, hown4, hb4⟩
  have HO4 := hid hown4
  have HV4 := hid (own_on HV3.out hb4)
  have HB4 := hid (HB3.out.trans (hb4.mono HB3.out.size))
  have HX4 := hid (HX3.out.on hb4)
  have hz4 := hb4.size
  clear hown4 hb4 x0 x1 x2 x3 x4
  obtain ⟨s1, c1, rfl⟩ := own_slice HO4.out.c
  obtain ⟨s2, c2, rfl⟩ := own_slice HO4.out.d
  obtain ⟨s3, c3, rfl⟩ := own_slice HO4.out.n
  have HIn := hid (fun g hg => HO4.out.lt g hg)
  unfold imgVal
  simp only
  go_wp2_with fail
  have hw45 : w4.heap.size < (w4.alloc (.cells #[.slice s1 m.code.length c1, .int .i64 m.entry, .int .i64 m.room, .slice s2 m.data.length c2, .slice s3 m.names.length c3] 30)).heap.size := by simp
  have hal := (Below.refl w4.heap.size w4).alloc (Nat.le_refl _) (.cells #[.slice s1 m.code.length c1, .int .i64 m.entry, .int .i64 m.room, .slice s2 m.data.length c2, .slice s3 m.names.length c3] 30)
  have HY5 := hid (Row.new w4 30 #[.slice s1 m.code.length c1, .int .i64 m.entry, .int .i64 m.room, .slice s2 m.data.length c2, .slice s3 m.names.length c3])
  have HB5 := hid (HB4.out.trans (hal.mono HB4.out.size))
  have HX5 := hid (HX4.out.on hal)
  have HO5 := hid (HO4.out.on hal)
  have HV5 := hid (own_on HV4.out hal)
  clear hal
  refine (calledIn_c m _ _ _ x _ HO5.out.cells HS.out (own_cap3 HO5.out.c)).mono ?_
  rintro e w6 ⟨v1, rfl, hown6, hb6⟩
  rw [HBs.out] at hown6
  have HG6 := hid hown6
  have HG5 := hid (fun g hg => (hown6.lt g hg).1)
  have HY6 := hid (HY5.out.on hb6)
  have HX6 := hid (HX5.out.on hb6)
  have HO6 := hid (HO5.out.on hb6)
  have HV6 := hid (own_on HV5.out hb6)
  have HB6 := hid (HB5.out.trans (hb6.mono HB5.out.size))
  have hz6 := hb6.size
  simp only [World.size_alloc] at hz6 hw45
  clear hown6 hb6
  go_wp2_with fail
  refine (eqIntS_b bs v1 v0 _ (.of_own HG6.out) (.of_own HV6.out) (by omega)).mono ?_
  rintro e w7 ⟨rfl, hb7⟩
  have HG7 := hid (own_on HG6.out hb7)
  have HY7 := hid (HY6.out.on hb7)
  have HX7 := hid (HX6.out.on hb7)
  have HO7 := hid (HO6.out.on hb7)
  have HV7 := hid (own_on HV6.out hb7)
  have HB7 := hid (HB6.out.trans (hb7.mono HB6.out.size))
  have hz7 := hb7.size
  clear hb7
  have x0 := HX7.out.cell 0
  have x1 := HX7.out.cell 1
  have x2 := HX7.out.cell 2
  have x3 := HX7.out.cell 3
  have x4 := HX7.out.cell 4
  have y0 := HY7.out.cell 0
  have y1 := HY7.out.cell 1
  have y2 := HY7.out.cell 2
  have y3 := HY7.out.cell 3
  have y4 := HY7.out.cell 4
  simp at x0 x1 x2 x3 x4 y0 y1 y2 y3 y4
  have hw4 : w4.heap.size < w7.heap.size := by omega
  have hw0 : w.heap.size < w7.heap.size := by omega
  go_upto_region 10 with fail
  go_cut [35] (fun s31 wx => s31 = .bool false ∧ Below w7.heap.size w7 wx)
  case first =>
    go_region_with (first
      | (go_at_call 15; refine (toImage_c m vc vd vn _ (HC.out.on HB7.out.drew) (HD.out.on HB7.out.drew) (HN.out.on HB7.out.drew) HS.out).mono ?_; rintro e wa ⟨tc, td, tn, rfl, howna, hba⟩; have HOa := hid howna; have HBa := hid hba; have HYa := hid (HY7.out.drew.on hba); have z0 := HYa.out.cell 0; have z1 := HYa.out.cell 1; have z2 := HYa.out.cell 2; have z3 := HYa.out.cell 3; have z4 := HYa.out.cell 4; simp at z0 z1 z2 z3 z4; clear howna hba)
      | (go_at_call 18; refine (eqImage_own m _ _ _ _ _ _ _ (HO7.out.on ((Below.refl _ _).drew.trans HBa.out)) HOa.out HS.out).mono ?_; rintro e wb ⟨rfl, hbb⟩; have HBb := hid (((Below.refl w7.heap.size w7).drew.trans HBa.out).trans (hbb.mono HBa.out.size)); clear hbb))
    all_goals
      go_wp2_with fail
      go_meet
      exact ⟨rfl, HBb.out⟩
  case rest =>
    obtain ⟨rfl, hb8⟩ := hcut
    have HG8 := hid (own_on HG7.out hb8)
    have HY8 := hid (HY7.out.on hb8)
    have HX8 := hid (HX7.out.on hb8)
    have HO8 := hid (HO7.out.on hb8)
    have HV8 := hid (own_on HV7.out hb8)
    have HB8 := hid (HB7.out.trans (hb8.mono HB7.out.size))
    have hz8 := hb8.size
    clear hb8 x0 x1 x2 x3 x4 y0 y1 y2 y3 y4
    have y0 := HY8.out.cell 0
    have y1 := HY8.out.cell 1
    have y2 := HY8.out.cell 2
    have y3 := HY8.out.cell 3
    have y4 := HY8.out.cell 4
    simp at y0 y1 y2 y3 y4
    go_wp2_with fail
    refine (markImage_c m w3.heap.size _ _ _ _ HO8.out HS.out).mono ?_
    rintro e w9 ⟨rfl, _, hb9⟩
    have HX9 := hid (row_only HX8.out (fun h => by have := (HIn.out _ h).1; have := HX3.out.lt; omega) hb9)
    have HG9 := hid (own_only HG8.out (fun g hg h => by have := (HIn.out _ h).2; have := HG5.out g hg; simp only [World.size_alloc] at this; omega) hb9)
    have HV9 := hid (own_only HV8.out (fun g hg h => by have := (HIn.out _ h).1; have := HVlt.out g hg; omega) hb9)
    have HB9 := hid (HB8.out.trans (hb9.below HB8.out.size (fun k h => by have := (HIn.out _ h).1; omega)))
    have hz9 := hb9.size
    obtain ⟨q, hq⟩ : ∃ q, markEnd m = q := ⟨_, rfl⟩
    rw [hq]
    clear hb9 hq y0 y1 y2 y3 y4
    go_wp2_with fail
    refine (eqIntS_b bs v1 v0 _ (.of_own HG9.out) (.of_own HV9.out) (by omega)).mono ?_
    rintro e w10 ⟨rfl, hb10⟩
    have HG10 := hid (own_on HG9.out hb10)
    have HX10 := hid (HX9.out.on hb10)
    have HV10 := hid (own_on HV9.out hb10)
    have HB10 := hid (HB9.out.trans (hb10.mono HB9.out.size))
    have hz10 := hb10.size
    clear hb10
    go_wp2_with fail
    refine (markIntS_c _ bs v1 _ HG10.out (by omega)).mono ?_
    rintro e w11 ⟨rfl, hown11, hb11⟩
    simp only [World.size_alloc] at hown11 hb11
    have HG11 := hid hown11
    have HX11 := hid (HX10.out.below hb11 (by omega))
    have HV11 := hid (own_below HV10.out (fun g hg => by have := HVlt.out g hg; omega) hb11)
    have HB11 := hid (HB10.out.trans (hb11.mono (by omega)))
    have hz11 := hb11.size
    clear hown11 hb11
    go_wp2_with fail
    refine (heldIntS_c bs.length v1 _ (.of_own (by rw [upFrom_len]; exact HG11.out)) (by omega)).mono ?_
    rintro e w12 ⟨rfl, rfl⟩
    have x0 := HX11.out.cell 0
    have x1 := HX11.out.cell 1
    have x2 := HX11.out.cell 2
    have x3 := HX11.out.cell 3
    have x4 := HX11.out.cell 4
    simp at x0 x1 x2 x3 x4
    go_wp2_with fail
    refine (toImage_c m vc vd vn _ (HC.out.on HB11.out) (HD.out.on HB11.out) (HN.out.on HB11.out) HS.out).mono ?_
    rintro e w13 ⟨dc, dd, dn, rfl, hown13, hb13⟩
    have HO13 := hid hown13
    have HG13 := hid (own_on HG11.out hb13)
    have HV13 := hid (own_on HV11.out hb13)
    have HB13 := hid (HB11.out.trans (hb13.mono HB11.out.size))
    clear hown13 hb13 x0 x1 x2 x3 x4
    go_wp2_with fail
    refine (calledIn_c m _ _ _ x _ HO13.out.cells HS.out (own_cap3 HO13.out.c)).mono ?_
    rintro e w14 ⟨v2, rfl, hown14, hb14⟩
    rw [HBs.out] at hown14
    have HH14 := hid hown14
    have HG14 := hid (own_on HG13.out hb14)
    have HV14 := hid (own_on HV13.out hb14)
    have HB14 := hid (HB13.out.trans (hb14.mono HB13.out.size))
    clear hown14 hb14
    go_wp2_with fail
    refine (eqIntS_b bs v2 v0 _ (.of_own HH14.out) (.of_own HV14.out) (by omega)).mono ?_
    rintro e w15 ⟨rfl, hb15⟩
    have HG15 := hid (own_on HG14.out hb15)
    have HB15 := hid (HB14.out.trans (hb15.mono HB14.out.size))
    clear hb15
    go_wp2_with fail
    refine (heldIntS_c bs.length v1 _ (.of_own (by rw [upFrom_len]; exact HG15.out)) (by omega)).mono ?_
    rintro e w16 ⟨rfl, rfl⟩
    go_wp2_with fail
    go_ret
    exact ⟨rfl, HB15.out⟩
end Go.Proofs.YtihhpgklpichgaaGreat.Wk
