/- The walk of the model: what is reached from some places on, with what is called or without. -/
import Derived.Test.YtihhpgklpichgaaGreatWs
import Derived.Test.YtihhpgklpichgaaGreatWy4
set_option linter.unusedSimpArgs false
set_option linter.unusedVariables false
namespace Go.Proofs.YtihhpgklpichgaaGreat.Wk
open Go.RowKit Pl Ft Mm In C2 Im Sw

theorem copyInts_c (xs : List Int) (a : Option Addr) (c : Nat) (w : World) (hr : Rd w (.slice a xs.length c) xs) (hl : xs.length ≤ 1000000) :
    Calls Tryz.prog 86 #[.slice a xs.length c] w (WaysPost2 xs w) := by
  have HRd := hid hr
  have HB0 := hid ((Below.refl w.heap.size w).alloc (Nat.le_refl _) (.cells #[] 3))
  have HL := hid (own_lit w [] #[] rfl (by simp) 0 rfl)
  clear hr
  go_enter Tryz.func86, Tryz.ntmps86
  go_wp2_with (at_builtin; refine app_ints _ rfl _ _ rfl w.heap.size [] xs _ rfl HL.out _ _ _ rfl rfl (SrcAt.of_rd (HRd.out.on HB0.out)) (by simp; omega) (by simp) ?_)
  intro v2 w2 hg2
  have HO2 := hid (show w2.ownsRow w.heap.size 3 1 v2 xs.length (ints xs) from hg2.own)
  have HB2 := hid (HB0.out.trans hg2.bel)
  clear hg2
  go_wp2_with fail
  go_ret
  exact ⟨_, rfl, HO2.out, HB2.out⟩
/-- Where a place leads, with what is called or without. -/
def Gm (code : List Int) (calls : Bool) (p : Nat) : List Int := match readP code p with | none => [] | some i => nextsP code i (p + slong i) ++ (if calls = true ∧ i.op = 29 then [i.n] else [])
theorem gm_gw {code : List Int} {p : Nat} {q : Int} : q ∈ Gm code true p ↔ q ∈ Gw code p := by
  unfold Gm Gw
  cases readP code p with
  | none => rfl
  | some i =>
    simp only
    rw [mem_succs, List.mem_append]
    by_cases h : i.op = 29 <;> simp [h]
theorem Rc.congr {G G' : Nat → List Int} {S : List Int} (h : ∀ p q, q ∈ G p ↔ q ∈ G' p) {p : Nat} : Rc G S p ↔ Rc G' S p := by
  constructor
  · intro hr
    induction hr with
    | start p hp => exact .start p hp
    | step p q _ hq ih => exact .step p q ih ((h p q).1 hq)
  · intro hr
    induction hr with
    | start p hp => exact .start p hp
    | step p q _ hq ih => exact .step p q ih ((h p q).2 hq)
theorem nextsP_len (code : List Int) (i : IIns) (next : Int) (hb : i.op = 30 → i.b ≤ 8) : (nextsP code i next).length ≤ 9 := by
  unfold nextsP
  repeat' split
  all_goals (try simp)
  rename_i h30
  have := tab_len (code := code) (hb h30)
  omega
theorem gm_bd {code : List Int} (hb : code.all isByte = true) (hlen : code.length ≤ 2000) (calls : Bool) {S : List Int} (hS : ∀ q ∈ S, 0 ≤ q ∧ q ≤ 100000) : GBd (Gm code calls) S 100000 10 where
  st q hq := hS q hq
  bd p hp q hq := by
    unfold Gm at hq
    cases hr : readP code p with
    | none => rw [hr] at hq; cases hq
    | some i =>
      rw [hr] at hq
      have hf := readP_facts hr
      refine succs_bd hb hf.2.1 (next := (p : Int) + slong i) (by omega) q ?_
      rw [mem_succs]
      rcases List.mem_append.1 hq with h1 | h1
      · exact .inl h1
      · split at h1
        · rename_i hc
          exact .inr ⟨hc.2, by simpa using h1⟩
        · cases h1
  len p hp := by
    unfold Gm
    cases hr : readP code p with
    | none => simp
    | some i =>
      have hf := readP_facts hr
      have := nextsP_len code i (p + slong i) (fun h => valid_b hf.2.1 h)
      simp only [List.length_append]
      split
      · simp; omega
      · simp; omega
theorem insOf_len {code : List Int} {ms : List Nat} (h : ms.Nodup) : (insOf code ms).length ≤ code.length :=
  rc_nodup_le code.length _ (h.filter _) (fun p hp => by
    have h2 := (mem_insOf.1 hp).2
    obtain ⟨i, hi⟩ := Option.isSome_iff_exists.1 h2
    exact (readP_facts hi).1)
/-- A place at which no instruction stands is passed by. -/
theorem WL.loose {code : List Int} {G : Nat → List Int} {S : List Int} {N D : Nat} {ms : List Nat} {ahead rest : List Int} {a : Nat} (hG : GBd G S N D) (h : WL G S ms ahead) (hm : ∀ q, q ∈ ahead ↔ q = (a : Int) ∨ q ∈ rest) (hr : readP code a = none) (hg : G a = []) :
    ∃ ms', WL G S ms' rest ∧ insOf code ms' = insOf code ms ∧ lostIn code ms' = true := by
  by_cases ha : a ∈ ms
  · exact ⟨ms, h.again hm ha, rfl, List.any_eq_true.2 ⟨a, ha, by unfold badAt; rw [hr]⟩⟩
  · refine ⟨ms ++ [a], h.meet hG hm ha (fun q => by simp [hg]), ?_, ?_⟩
    · rw [insOf_push, hr]
    · rw [lostIn_push]
      unfold badAt
      rw [hr, Bool.or_true]
def isT : Option Value → Bool
  | some (.bool true) => true
  | _ => false
def bfree (w : World) (g n : Nat) : Nat := ((List.range n).filter fun j => !isT (w.cell? ⟨g, j, none⟩)).length
theorem bfree_eq {w : World} {g n : Nat} {f : Nat → Bool} (h : BAt w g n f) : bfree w g n = ((List.range n).filter fun j => !f j).length := by
  unfold bfree
  congr 1
  apply List.filter_congr
  intro j hj
  rw [h.cell (List.mem_range.1 hj)]
  cases f j <;> rfl
theorem free_step (f f' : Nat → Bool) (p : Nat) (hp : f p = false) (hf : ∀ q, f' q = (f q || q == p)) : ∀ n, ((List.range n).filter fun j => !f' j).length + (if p < n then 1 else 0) = ((List.range n).filter fun j => !f j).length
  | 0 => by simp
  | n + 1 => by
    have ih := free_step f f' p hp hf n
    rw [List.range_succ, List.filter_append, List.filter_append, List.length_append, List.length_append]
    have h2 := hf n
    by_cases hn : n = p
    · subst hn
      rw [if_neg (by omega)] at ih
      rw [if_pos (by omega)]
      have h3 : f' n = true := by rw [h2]; simp
      simp [h3, hp]
      omega
    · have h3 : f' n = f n := by rw [h2]; simp [hn]
      have e : (if p < n + 1 then 1 else 0) = (if p < n then 1 else 0) := by
        by_cases h4 : p < n
        · rw [if_pos h4, if_pos (by omega)]
        · rw [if_neg h4, if_neg (by omega)]
      rw [e]
      cases hfn : f n <;> simp [h3, hfn] <;> omega
structure WsRel (code : List Int) (S : List Int) (G : Nat → List Int) (gb : Nat) (w : World) (ms : List Nat) (L : List Int) (k : Nat) (v : Value) (wr : World) : Prop where
  inv : WL G S ms (L.drop k)
  own : wr.ownsRow w.heap.size 3 1 v L.length (ints L)
  bat : BAt wr gb code.length (fun q => decide (q ∈ insOf code ms))
  bel : Below w.heap.size w wr
  le : k ≤ L.length
  len : L.length ≤ 10 * (insOf code ms).length + S.length
def WalkPost (code S : List Int) (calls : Bool) (w : World) (e : Ending) (w' : World) : Prop :=
  ∃ (v : Value) (ms : List Nat), e = .returned (.tuple #[v, .bool (!lostIn code ms)]) ∧ w'.ownsRow w.heap.size 3 1 v (truesL (fun q => decide (q ∈ insOf code ms)) code.length).length (ints (truesL (fun q => decide (q ∈ insOf code ms)) code.length)) ∧ (∀ p, p ∈ ms ↔ Rc (Gm code calls) S p) ∧ Below w.heap.size w w'
theorem info_bool : (Tryz.prog.info? 4).map (fun i => (i.zero, i.size, i.bytes)) = some (some (.bool false), 1, 1) := by kernel_rfl
theorem BAt.of_own {w : World} {base n : Nat} {v : Value} {f : Nat → Bool} (h : w.ownsRow base 4 1 v n ((List.range n).map fun j => .bool (f j))) (hn : 0 < n) : ∃ g cap, v = .slice (some ⟨g, 0, none⟩) n cap ∧ base ≤ g ∧ BAt w g n f := by
  rcases h.2 with ⟨_, h0⟩ | ⟨g, cap, cur, rfl, hg, hr, hnc, hm, hs, ht⟩
  · omega
  · refine ⟨g, cap, rfl, hg, cur, hr, fun j hj => ?_⟩
    have h1 := congrArg (fun l => l[j]?) ht
    simp only [List.getElem?_take, Nat.mul_one, hj, if_true, List.getElem?_map, List.getElem?_range hj, Option.map_some] at h1
    rw [← Array.getElem?_toList]
    exact h1
end Go.Proofs.YtihhpgklpichgaaGreat.Wk
namespace Go.Proofs.YtihhpgklpichgaaGreat.Wk
open Go.RowKit Pl Ft Mm In C2 Im Sw

theorem made_bools (n : Nat) : (madeCells (Value.cells (.bool false)) (n * 1)).toList = (List.range n).map fun _ => Value.bool false := by
  have e : Value.cells (.bool false) = #[.bool false] := rfl
  rw [e, toList_madeCells_one, Nat.mul_one, List.map_const', List.length_range]
theorem addr_add (g k : Nat) : (⟨g, 0, none⟩ : Addr).add k = ⟨g, k, none⟩ := by unfold Addr.add; split <;> simp_all
theorem lost_some {code : List Int} {ms : List Nat} {p : Nat} {i : IIns} (h : readP code p = some i) : lostIn code (ms ++ [p]) = (lostIn code ms || badTab code i) := by
  rw [lostIn_push]
  unfold badAt
  rw [h]
theorem WsRel.again {code S : List Int} {G : Nat → List Int} {gb : Nat} {w : World} {ms : List Nat} {L : List Int} {k p : Nat} {v : Value} {wr : World} (h : WsRel code S G gb w ms L k v wr) (hk : k < L.length)
    (hm : ∀ q, q ∈ L.drop k ↔ q = (p : Int) ∨ q ∈ L.drop (k + 1)) (hp : p ∈ ms) : WsRel code S G gb w ms L (k + 1) v wr :=
  ⟨h.inv.again hm hp, h.own, h.bat, h.bel, hk, h.len⟩
theorem WsRel.loose {code S : List Int} {G : Nat → List Int} {N D gb : Nat} {w : World} {ms : List Nat} {L : List Int} {k p : Nat} {v : Value} {wr w1 : World} (h : WsRel code S G gb w ms L k v wr) (hG : GBd G S N D) (hk : k < L.length)
    (hm : ∀ q, q ∈ L.drop k ↔ q = (p : Int) ∨ q ∈ L.drop (k + 1)) (hr : readP code p = none) (hg : G p = []) (hb : Below wr.heap.size wr w1) : ∃ ms', lostIn code ms' = true ∧ WsRel code S G gb w ms' L (k + 1) v w1 := by
  obtain ⟨ms', h1, h2, h3⟩ := h.inv.loose hG hm hr hg
  exact ⟨ms', h3, h1, own_on h.own hb, by rw [h2]; exact h.bat.on hb, h.bel.trans (hb.mono h.bel.size), hk, by rw [h2]; exact h.len⟩
theorem WsRel.step {code S : List Int} {calls : Bool} {N gb : Nat} {w : World} {ms : List Nat} {L L' : List Int} {k p : Nat} {v v' : Value} {wr w1 : World} {i : IIns} (h : WsRel code S (Gm code calls) gb w ms L k v wr) (hG : GBd (Gm code calls) S N 10) (hk : k < L.length)
    (hm : ∀ q, q ∈ L.drop k ↔ q = (p : Int) ∨ q ∈ L.drop (k + 1)) (hr : readP code p = some i) (hn : p ∉ insOf code ms) (hpN : p ≤ N) (hL : L' = L ++ Gm code calls p) (ho : w1.ownsRow w.heap.size 3 1 v' L'.length (ints L'))
    (hbt : BAt w1 gb code.length (fun q => decide (q ∈ insOf code ms) || q == p)) (hb : Below w.heap.size w w1) : WsRel code S (Gm code calls) gb w (ms ++ [p]) L' (k + 1) v' w1 := by
  have hpm : p ∉ ms := fun hp => hn (mem_insOf.2 ⟨hp, by rw [hr]; rfl⟩)
  have hi : insOf code (ms ++ [p]) = insOf code ms ++ [p] := by rw [insOf_push, hr]
  subst hL
  have hl := hG.len p hpN
  refine ⟨h.inv.meet hG hm hpm (fun q => ?_), ho, ?_, hb, ?_, ?_⟩
  · rw [List.drop_append_of_le_length (by omega), List.mem_append]
  · have e : (fun q => decide (q ∈ insOf code (ms ++ [p]))) = fun q => decide (q ∈ insOf code ms) || q == p := by
      funext q
      rw [hi]
      by_cases h1 : q ∈ insOf code ms <;> by_cases h2 : q = p <;> simp [h1, h2]
    rw [e]
    exact hbt
  · rw [List.length_append]
    omega
  · have := h.len
    rw [hi, List.length_append, List.length_append, List.length_singleton]
    omega
set_option maxRecDepth 100000 in
set_option maxHeartbeats 8000000 in
theorem walk_off (code S : List Int) (ac sa : Option Addr) (cc sc : Nat) (w : World) (hr : Rd w (.slice ac code.length cc) code) (hs : Rd w (.slice sa S.length sc) S) (hb : code.all isByte = true) (hlen : code.length ≤ 2000) (hpos : 0 < code.length)
    (hS : ∀ q ∈ S, 0 ≤ q ∧ q ≤ 100000) (hSl : S.length ≤ 100000) :
    Calls Tryz.prog 46 #[.slice ac code.length cc, .slice sa S.length sc, .bool false] w (WalkPost code S false w) := by
  have HRd := hid hr
  have HRs := hid hs
  have HBy := hid hb
  have HGb := hid (gm_bd hb hlen false hS)
  obtain ⟨i0, hi, hz0, hz1, hz2⟩ := info_parts info_bool
  have H0 := hid hz0
  have H1 := hid hz1
  have H2 := hid hz2
  have HI := hid hi
  clear hz0 hz1 hz2 hi hr hs hb hS
  go_enter Tryz.func46, Tryz.ntmps46
  go_wp2_with (refine wpList_make_full _ rfl _ _ 102 rfl w.heap.size 4 i0 (.bool false) 1 Tryz.underlying102 HI.out H0.out H1.out .i64 .i64 _ _ code.length rfl rfl rfl rfl (by rw [H2.out]; omega) (by simp only [maxLen]; omega) (Nat.le_refl _) ?_; intro w1 hown1 hg1)
  rw [made_bools] at hown1
  obtain ⟨g0, c0, he0, _, hbat⟩ := BAt.of_own (f := fun _ => false) hown1 hpos
  simp only [Value.slice.injEq, Option.some.injEq, Addr.mk.injEq, true_and, and_true] at he0
  obtain ⟨rfl, -⟩ := he0
  have HB1 := hid ((Below.refl w.heap.size w).grown hg1 (Nat.le_refl _) (by simp))
  have HBt := hid hbat
  have hz1 := HB1.out.size
  clear hown1 hg1 hbat
  go_wp2_with fail
  refine (copyInts_c S sa sc w1 (HRs.out.on HB1.out) (by omega)).mono ?_
  rintro e w2 ⟨v2, rfl, hown2, hb2⟩
  have HO2 := hid (own_mono hown2 hz1)
  have HB2 := hid (HB1.out.trans (hb2.mono hz1))
  have HBt2 := hid (HBt.out.on hb2)
  obtain ⟨s2, c2, rfl⟩ := own_slice hown2
  clear hown2 hb2
  go_wp2_with fail
  go_loopw [9, 10, 11] (fun v gd c wr => ∃ (ms : List Nat) (L : List Int) (k : Nat), c = .int .i64 k ∧ gd = .bool (!lostIn code ms) ∧ WsRel code S (Gm code false) w.heap.size w ms L k v wr) (fun v _ c wr => 11 * bfree wr w.heap.size code.length + (lenOf v - (intOf c).toNat))
  case atStart => exact ⟨[], S, 0, rfl, rfl, by rw [List.drop_zero]; exact WL.begin HGb.out, HO2.out, HBt2.out, HB2.out, by omega, by omega⟩
  case round =>
    obtain ⟨ms, L, k, rfl, rfl, hrel⟩ := hrel
    have HR := hid hrel
    have hle := hrel.le
    have hz := hrel.bel.size
    have hin := insOf_len (code := code) hrel.inv.nd
    have hll : L.length ≤ 200000 := by have := hrel.len; omega
    obtain ⟨b, hb⟩ : ∃ b, lostIn code ms = b := ⟨_, rfl⟩
    rw [hb]
    have HLo := hid hb
    clear hb
    by_cases hlt : k < L.length
    case neg =>
      obtain ⟨sv, cv, rfl⟩ := own_slice hrel.own
      obtain rfl : k = L.length := by omega
      have HMs := hid (show ∀ p, p ∈ ms ↔ Rc (Gm code false) S p from fun p => by have h := hrel.inv; rw [List.drop_length] at h; exact h.done p)
      clear hrel
      go_wp2_with fail
      refine (trues_c code.length w.heap.size _ (fun q => decide (q ∈ insOf code ms)) _ HR.out.bat hlen).mono ?_
      rintro e w3 ⟨v3, rfl, hown3, hb3⟩
      have HO3 := hid (own_mono hown3 hz)
      have HB3 := hid (HR.out.bel.trans (hb3.mono hz))
      clear hown3 hb3
      go_wp2_with fail
      go_ret2
      exact ⟨_, ms, by rw [HLo.out]; rfl, HO3.out, HMs.out, HB3.out⟩
    have hd := List.drop_eq_getElem_cons hlt
    obtain ⟨p, hp, hrc⟩ := hrel.inv.ra L[k] (by have h := List.mem_cons_self (a := L[k]) (l := L.drop (k + 1)); rwa [← hd] at h)
    have hpN := hrc.le HGb.out
    have HMem := hid (show ∀ q, q ∈ L.drop k ↔ q = (p : Int) ∨ q ∈ L.drop (k + 1) from fun q => by rw [hd, hp]; simp)
    have HO := hid hrel.own
    obtain ⟨g, cap, rfl, hg, hgl⟩ := own_addr HO.out (by omega)
    have HApp := hid (fun b (hb : (Value.slice (some ⟨g, 0, none⟩) L.length cap).ownBlock = some b) => show b ≠ w.heap.size from fun h => by
      obtain ⟨cur, hcr, _⟩ := HR.out.bat
      exact no_own hcr HO.out (by decide) (h ▸ hb))
    have hcell : wr.cell? ⟨g, k, none⟩ = some (.int .i64 p) := by
      have h := HO.out.cells (g := g) rfl k (.int .i64 p) (by rw [ints, List.getElem?_map, List.getElem?_eq_getElem hlt, Option.map_some, hp])
      rwa [addr_add] at h
    clear hrel hd hrc hp
    by_cases hpl : p < code.length
    case neg =>
      obtain ⟨ms2, hl2, hr2⟩ := HR.out.loose HGb.out hlt HMem.out (readP_out hpl) (by unfold Gm; rw [readP_out hpl]) (Below.refl _ _)
      have HR2 := hid hr2
      have HL2 := hid hl2
      clear hr2 hl2
      go_wp2_with fail
      go_roundw
      case rel => exact ⟨ms2, L, k + 1, by go_num, by rw [HL2.out]; rfl, HR2.out⟩
      case measure => simp [lenOf, intOf]; omega
    have hbc := HR.out.bat.cell hpl
    by_cases hsn : p ∈ insOf code ms
    · rw [decide_eq_true hsn] at hbc
      have HSn := hid (mem_insOf.1 hsn).1
      clear hsn
      go_wp2_with fail
      go_roundw
      case rel => exact ⟨ms, L, k + 1, by go_num, by rw [HLo.out], HR.out.again hlt HMem.out HSn.out⟩
      case measure => simp [lenOf, intOf]; omega
    rw [decide_eq_false hsn] at hbc
    have HSn := hid hsn
    have hx := byte_at HBy.out p hpl
    have HEq := hid ((readP_in hpl).trans (insIn_eq code p hx.1 hx.2))
    clear hsn hx
    go_wp2_with fail
    refine (sRead_c code _ p _ (HRd.out.on HR.out.bel) HBy.out hlen hpl).mono ?_
    rintro e w3 ⟨⟨jop, ja, jb, jn⟩, rfl, hij, hb3⟩
    unfold IIns.val
    simp only
    cases ho : sread code p with
    | none =>
      simp only [Option.isSome_none]
      have hrn := HEq.out.trans ho
      obtain ⟨w4, hw4, hr4, hb4, hz4⟩ := new_ex w3 70 #[.int .i64 jop, .int .i64 ja, .int .i64 jb, .int .i64 jn]
      obtain ⟨ms2, hl2, hr2⟩ := HR.out.loose HGb.out hlt HMem.out hrn (by unfold Gm; rw [hrn]) (hb3.trans (hb4.mono hb3.size))
      have HR2 := hid hr2
      have HL2 := hid hl2
      have HBt4 := hid (HR2.out.bat)
      have hfe : bfree w4 w.heap.size code.length = bfree wr w.heap.size code.length := by
        have h1 := HR.out.bat.on (hb3.trans (hb4.mono hb3.size))
        rw [bfree_eq h1, bfree_eq HR.out.bat]
      have HFe := hid hfe
      clear hr2 hl2 hij hrn ho hfe hr4 hb4 hbc hcell
      go_upto_region 12 with fail
      clear hw4
      go_wp2_with fail
      go_roundw
      case rel => exact ⟨ms2, L, k + 1, by go_num, by rw [HL2.out]; rfl, HR2.out⟩
      case measure =>
        rw [HFe.out]
        simp [lenOf, intOf]; omega
    | some i =>
      obtain rfl := hij i ho
      simp only [Option.isSome_some]
      have hrs := HEq.out.trans ho
      have HRs2 := hid hrs
      have hf := readP_facts hrs
      have HV := hid hf.2.1
      have hs1 := hf.2.2.1
      have hs5 := hf.2.2.2.1
      have HStep := hid (fun (L' : List Int) (v' : Value) (w1 : World) hL ho hbt hb => HR.out.step (i := ⟨jop, ja, jb, jn⟩) (L' := L') (v' := v') (w1 := w1) HGb.out hlt HMem.out hrs HSn.out hpN hL ho hbt hb)
      have HLs := hid (lost_some (ms := ms) hrs)
      have HGp := hid (show Gm code false p = nextsP code ⟨jop, ja, jb, jn⟩ (p + slong ⟨jop, ja, jb, jn⟩) ++ (if false = true ∧ jop = 29 then [jn] else []) by unfold Gm; rw [hrs])
      obtain ⟨w4, hw4, hr4, hb4, hz4⟩ := new_ex w3 70 #[.int .i64 jop, .int .i64 ja, .int .i64 jb, .int .i64 jn]
      have HB34 := hid (hb3.trans (hb4.mono hb3.size))
      have HX4 := hid hr4
      have HB4 := hid (HR.out.bel.trans (HB34.out.mono hz))
      have hBt4 := HR.out.bat.on HB34.out
      have HBt4 := hid hBt4
      have hbc4 := hBt4.cell hpl
      rw [decide_eq_false HSn.out] at hbc4
      have HO4 := hid (own_on HO.out HB34.out)
      have hfz : w4.frozen? ⟨w.heap.size, p, none⟩ = false := by obtain ⟨cur, hcr, _⟩ := hBt4; exact hcr.free p
      obtain ⟨l1, hl1⟩ : ∃ l, nextsP code ⟨jop, ja, jb, jn⟩ (p + slong ⟨jop, ja, jb, jn⟩) = l := ⟨_, rfl⟩
      rw [hl1] at HGp
      have HL1 := hid hl1
      have hl9 : l1.length ≤ 9 := by rw [← hl1]; exact nextsP_len code _ _ (fun h => valid_b HV.out h)
      have hzw : w.heap.size ≤ w3.heap.size := Nat.le_trans hz hb3.size
      have HGne := hid (show w.heap.size ≠ w3.heap.size from by have := HR.out.bat.lt; have := hb3.size; omega)
      clear hrs hf hr4 hb4 hBt4 ho hbc hl1 hij hb3 hcell
      go_upto_region 14 with fail
      clear hw4
      obtain ⟨g4, hg4⟩ : ∃ g, w3.heap.size = g := ⟨_, rfl⟩
      rw [hg4] at HX4 hzw HGne
      try rw [hg4]
      have HBt5 := hid (HBt4.out.set hpl)
      have HX5 := hid (HX4.out.far (p := ⟨w.heap.size, p, none⟩) (fun h => HGne.out h.symm) (.bool true))
      have HO5 := hid (own_far HO4.out (p := ⟨w.heap.size, p, none⟩) (fun b hb => HApp.out b hb) (.bool true))
      have HB5 := hid (HB4.out.trans (Below.setCell (Below.refl _ w4) (p := ⟨w.heap.size, p, none⟩) (Nat.le_refl w.heap.size) (.bool true)))
      go_upto_region 15 with fail
      clear hbc4 hfz
      generalize w4.setCell ⟨w.heap.size, p, none⟩ (.bool true) = w5 at HBt5 HX5 HO5 HB5 ⊢
      have hz5 := HB5.out.size
      have x0 := HX5.out.cell 0
      have x1 := HX5.out.cell 1
      have x2 := HX5.out.cell 2
      have x3 := HX5.out.cell 3
      simp at x0 x1 x2 x3
      go_wp2_with fail
      refine (nexts_c code _ p ⟨jop, ja, jb, jn⟩ w5 (HRd.out.on HB5.out) HBy.out hlen (by omega) HV.out hs1 hs5).mono ?_
      rintro e w6 ⟨v6, rfl, hown6, hb6⟩
      rw [HL1.out] at hown6
      obtain ⟨bt, hbt⟩ : ∃ b, badTab code ⟨jop, ja, jb, jn⟩ = b := ⟨_, rfl⟩
      rw [hbt]
      have HBd := hid hbt
      have HX6 := hid (HX5.out.on hb6)
      have HO6 := hid (own_on HO5.out hb6)
      have HB6 := hid (HB5.out.trans (hb6.mono hz5))
      have HBt6 := hid (HBt5.out.on hb6)
      have hz6 := HB6.out.size
      obtain ⟨s6, c6, rfl⟩ := own_slice hown6
      have HSrc := hid (SrcAt.of_rd (Rd.of_own hown6))
      clear hown6 hb6 hbt x0 x1 x2 x3
      cases b
      all_goals
        go_wp2_with (at_builtin; refine app_ints _ rfl _ _ rfl w.heap.size L l1 _ rfl HO6.out _ _ _ rfl rfl HSrc.out (by omega) (by omega) ?_)
        intro v7 w7 hg7
        have hown7 := hg7.own
        obtain ⟨L1, hL1⟩ : ∃ x, L ++ l1 = x := ⟨_, rfl⟩
        have hl1 : L1.length ≤ 300000 := by rw [← hL1, List.length_append]; omega
        have HLn := hid (show L1.length = L.length + l1.length by rw [← hL1, List.length_append])
        rw [hL1] at hown7
        have HL7 := hid hL1
        have HO7 := hid hown7
        have HX7 := hid (hg7.row HX6.out (no_own HX6.out HO6.out (by decide)))
        have HB7 := hid (HB6.out.trans hg7.bel)
        have HBt7 := hid (show BAt w7 w.heap.size code.length _ from (by obtain ⟨cur, hcr, hcs⟩ := HBt6.out; exact ⟨cur, hg7.row hcr (no_own hcr HO6.out (by decide)), hcs⟩))
        have hz7 := HB7.out.size
        obtain ⟨s7, c7, rfl⟩ := own_slice hown7
        clear hg7 hown7 hL1
        have x0 := HX7.out.cell 0
        have x3 := HX7.out.cell 3
        simp at x0 x3
        go_wp2_with fail
        go_roundw
        case rel => exact ⟨ms ++ [p], L1, k + 1, by go_num, by rw [HLs.out, HLo.out, HBd.out]; cases bt <;> rfl, HStep.out _ _ _ (by rw [HGp.out, ← HL7.out]; simp) HO7.out HBt7.out HB7.out⟩
        case measure =>
          rw [bfree_eq HBt7.out, bfree_eq HR.out.bat]
          have hfs := free_step (fun q => decide (q ∈ insOf code ms)) (fun q => decide (q ∈ insOf code ms) || q == p) p (decide_eq_false HSn.out) (fun _ => rfl) code.length
          rw [if_pos hpl] at hfs
          have hln := HLn.out
          simp only [lenOf, intOf, List.length_append, List.length_singleton]
          omega
set_option maxRecDepth 100000 in
set_option maxHeartbeats 8000000 in
theorem walk_on (code S : List Int) (ac sa : Option Addr) (cc sc : Nat) (w : World) (hr : Rd w (.slice ac code.length cc) code) (hs : Rd w (.slice sa S.length sc) S) (hb : code.all isByte = true) (hlen : code.length ≤ 2000) (hpos : 0 < code.length)
    (hS : ∀ q ∈ S, 0 ≤ q ∧ q ≤ 100000) (hSl : S.length ≤ 100000) :
    Calls Tryz.prog 46 #[.slice ac code.length cc, .slice sa S.length sc, .bool true] w (WalkPost code S true w) := by
  have HRd := hid hr
  have HRs := hid hs
  have HBy := hid hb
  have HGb := hid (gm_bd hb hlen true hS)
  obtain ⟨i0, hi, hz0, hz1, hz2⟩ := info_parts info_bool
  have H0 := hid hz0
  have H1 := hid hz1
  have H2 := hid hz2
  have HI := hid hi
  clear hz0 hz1 hz2 hi hr hs hb hS
  go_enter Tryz.func46, Tryz.ntmps46
  go_wp2_with (refine wpList_make_full _ rfl _ _ 102 rfl w.heap.size 4 i0 (.bool false) 1 Tryz.underlying102 HI.out H0.out H1.out .i64 .i64 _ _ code.length rfl rfl rfl rfl (by rw [H2.out]; omega) (by simp only [maxLen]; omega) (Nat.le_refl _) ?_; intro w1 hown1 hg1)
  rw [made_bools] at hown1
  obtain ⟨g0, c0, he0, _, hbat⟩ := BAt.of_own (f := fun _ => false) hown1 hpos
  simp only [Value.slice.injEq, Option.some.injEq, Addr.mk.injEq, true_and, and_true] at he0
  obtain ⟨rfl, -⟩ := he0
  have HB1 := hid ((Below.refl w.heap.size w).grown hg1 (Nat.le_refl _) (by simp))
  have HBt := hid hbat
  have hz1 := HB1.out.size
  clear hown1 hg1 hbat
  go_wp2_with fail
  refine (copyInts_c S sa sc w1 (HRs.out.on HB1.out) (by omega)).mono ?_
  rintro e w2 ⟨v2, rfl, hown2, hb2⟩
  have HO2 := hid (own_mono hown2 hz1)
  have HB2 := hid (HB1.out.trans (hb2.mono hz1))
  have HBt2 := hid (HBt.out.on hb2)
  obtain ⟨s2, c2, rfl⟩ := own_slice hown2
  clear hown2 hb2
  go_wp2_with fail
  go_loopw [9, 10, 11] (fun v gd c wr => ∃ (ms : List Nat) (L : List Int) (k : Nat), c = .int .i64 k ∧ gd = .bool (!lostIn code ms) ∧ WsRel code S (Gm code true) w.heap.size w ms L k v wr) (fun v _ c wr => 11 * bfree wr w.heap.size code.length + (lenOf v - (intOf c).toNat))
  case atStart => exact ⟨[], S, 0, rfl, rfl, by rw [List.drop_zero]; exact WL.begin HGb.out, HO2.out, HBt2.out, HB2.out, by omega, by omega⟩
  case round =>
    obtain ⟨ms, L, k, rfl, rfl, hrel⟩ := hrel
    have HR := hid hrel
    have hle := hrel.le
    have hz := hrel.bel.size
    have hin := insOf_len (code := code) hrel.inv.nd
    have hll : L.length ≤ 200000 := by have := hrel.len; omega
    obtain ⟨b, hb⟩ : ∃ b, lostIn code ms = b := ⟨_, rfl⟩
    rw [hb]
    have HLo := hid hb
    clear hb
    by_cases hlt : k < L.length
    case neg =>
      obtain ⟨sv, cv, rfl⟩ := own_slice hrel.own
      obtain rfl : k = L.length := by omega
      have HMs := hid (show ∀ p, p ∈ ms ↔ Rc (Gm code true) S p from fun p => by have h := hrel.inv; rw [List.drop_length] at h; exact h.done p)
      clear hrel
      go_wp2_with fail
      refine (trues_c code.length w.heap.size _ (fun q => decide (q ∈ insOf code ms)) _ HR.out.bat hlen).mono ?_
      rintro e w3 ⟨v3, rfl, hown3, hb3⟩
      have HO3 := hid (own_mono hown3 hz)
      have HB3 := hid (HR.out.bel.trans (hb3.mono hz))
      clear hown3 hb3
      go_wp2_with fail
      go_ret2
      exact ⟨_, ms, by rw [HLo.out]; rfl, HO3.out, HMs.out, HB3.out⟩
    have hd := List.drop_eq_getElem_cons hlt
    obtain ⟨p, hp, hrc⟩ := hrel.inv.ra L[k] (by have h := List.mem_cons_self (a := L[k]) (l := L.drop (k + 1)); rwa [← hd] at h)
    have hpN := hrc.le HGb.out
    have HMem := hid (show ∀ q, q ∈ L.drop k ↔ q = (p : Int) ∨ q ∈ L.drop (k + 1) from fun q => by rw [hd, hp]; simp)
    have HO := hid hrel.own
    obtain ⟨g, cap, rfl, hg, hgl⟩ := own_addr HO.out (by omega)
    have HApp := hid (fun b (hb : (Value.slice (some ⟨g, 0, none⟩) L.length cap).ownBlock = some b) => show b ≠ w.heap.size from fun h => by
      obtain ⟨cur, hcr, _⟩ := HR.out.bat
      exact no_own hcr HO.out (by decide) (h ▸ hb))
    have hcell : wr.cell? ⟨g, k, none⟩ = some (.int .i64 p) := by
      have h := HO.out.cells (g := g) rfl k (.int .i64 p) (by rw [ints, List.getElem?_map, List.getElem?_eq_getElem hlt, Option.map_some, hp])
      rwa [addr_add] at h
    clear hrel hd hrc hp
    by_cases hpl : p < code.length
    case neg =>
      obtain ⟨ms2, hl2, hr2⟩ := HR.out.loose HGb.out hlt HMem.out (readP_out hpl) (by unfold Gm; rw [readP_out hpl]) (Below.refl _ _)
      have HR2 := hid hr2
      have HL2 := hid hl2
      clear hr2 hl2
      go_wp2_with fail
      go_roundw
      case rel => exact ⟨ms2, L, k + 1, by go_num, by rw [HL2.out]; rfl, HR2.out⟩
      case measure => simp [lenOf, intOf]; omega
    have hbc := HR.out.bat.cell hpl
    by_cases hsn : p ∈ insOf code ms
    · rw [decide_eq_true hsn] at hbc
      have HSn := hid (mem_insOf.1 hsn).1
      clear hsn
      go_wp2_with fail
      go_roundw
      case rel => exact ⟨ms, L, k + 1, by go_num, by rw [HLo.out], HR.out.again hlt HMem.out HSn.out⟩
      case measure => simp [lenOf, intOf]; omega
    rw [decide_eq_false hsn] at hbc
    have HSn := hid hsn
    have hx := byte_at HBy.out p hpl
    have HEq := hid ((readP_in hpl).trans (insIn_eq code p hx.1 hx.2))
    clear hsn hx
    go_wp2_with fail
    refine (sRead_c code _ p _ (HRd.out.on HR.out.bel) HBy.out hlen hpl).mono ?_
    rintro e w3 ⟨⟨jop, ja, jb, jn⟩, rfl, hij, hb3⟩
    unfold IIns.val
    simp only
    cases ho : sread code p with
    | none =>
      simp only [Option.isSome_none]
      have hrn := HEq.out.trans ho
      obtain ⟨w4, hw4, hr4, hb4, hz4⟩ := new_ex w3 70 #[.int .i64 jop, .int .i64 ja, .int .i64 jb, .int .i64 jn]
      obtain ⟨ms2, hl2, hr2⟩ := HR.out.loose HGb.out hlt HMem.out hrn (by unfold Gm; rw [hrn]) (hb3.trans (hb4.mono hb3.size))
      have HR2 := hid hr2
      have HL2 := hid hl2
      have HBt4 := hid (HR2.out.bat)
      have hfe : bfree w4 w.heap.size code.length = bfree wr w.heap.size code.length := by
        have h1 := HR.out.bat.on (hb3.trans (hb4.mono hb3.size))
        rw [bfree_eq h1, bfree_eq HR.out.bat]
      have HFe := hid hfe
      clear hr2 hl2 hij hrn ho hfe hr4 hb4 hbc hcell
      go_upto_region 12 with fail
      clear hw4
      go_wp2_with fail
      go_roundw
      case rel => exact ⟨ms2, L, k + 1, by go_num, by rw [HL2.out]; rfl, HR2.out⟩
      case measure =>
        rw [HFe.out]
        simp [lenOf, intOf]; omega
    | some i =>
      obtain rfl := hij i ho
      simp only [Option.isSome_some]
      have hrs := HEq.out.trans ho
      have HRs2 := hid hrs
      have hf := readP_facts hrs
      have HV := hid hf.2.1
      have hs1 := hf.2.2.1
      have hs5 := hf.2.2.2.1
      have HStep := hid (fun (L' : List Int) (v' : Value) (w1 : World) hL ho hbt hb => HR.out.step (i := ⟨jop, ja, jb, jn⟩) (L' := L') (v' := v') (w1 := w1) HGb.out hlt HMem.out hrs HSn.out hpN hL ho hbt hb)
      have HLs := hid (lost_some (ms := ms) hrs)
      have HGp := hid (show Gm code true p = nextsP code ⟨jop, ja, jb, jn⟩ (p + slong ⟨jop, ja, jb, jn⟩) ++ (if true = true ∧ jop = 29 then [jn] else []) by unfold Gm; rw [hrs])
      obtain ⟨w4, hw4, hr4, hb4, hz4⟩ := new_ex w3 70 #[.int .i64 jop, .int .i64 ja, .int .i64 jb, .int .i64 jn]
      have HB34 := hid (hb3.trans (hb4.mono hb3.size))
      have HX4 := hid hr4
      have HB4 := hid (HR.out.bel.trans (HB34.out.mono hz))
      have hBt4 := HR.out.bat.on HB34.out
      have HBt4 := hid hBt4
      have hbc4 := hBt4.cell hpl
      rw [decide_eq_false HSn.out] at hbc4
      have HO4 := hid (own_on HO.out HB34.out)
      have hfz : w4.frozen? ⟨w.heap.size, p, none⟩ = false := by obtain ⟨cur, hcr, _⟩ := hBt4; exact hcr.free p
      obtain ⟨l1, hl1⟩ : ∃ l, nextsP code ⟨jop, ja, jb, jn⟩ (p + slong ⟨jop, ja, jb, jn⟩) = l := ⟨_, rfl⟩
      rw [hl1] at HGp
      have HL1 := hid hl1
      have hl9 : l1.length ≤ 9 := by rw [← hl1]; exact nextsP_len code _ _ (fun h => valid_b HV.out h)
      have hzw : w.heap.size ≤ w3.heap.size := Nat.le_trans hz hb3.size
      have HGne := hid (show w.heap.size ≠ w3.heap.size from by have := HR.out.bat.lt; have := hb3.size; omega)
      clear hrs hf hr4 hb4 hBt4 ho hbc hl1 hij hb3 hcell
      go_upto_region 14 with fail
      clear hw4
      obtain ⟨g4, hg4⟩ : ∃ g, w3.heap.size = g := ⟨_, rfl⟩
      rw [hg4] at HX4 hzw HGne
      try rw [hg4]
      have HBt5 := hid (HBt4.out.set hpl)
      have HX5 := hid (HX4.out.far (p := ⟨w.heap.size, p, none⟩) (fun h => HGne.out h.symm) (.bool true))
      have HO5 := hid (own_far HO4.out (p := ⟨w.heap.size, p, none⟩) (fun b hb => HApp.out b hb) (.bool true))
      have HB5 := hid (HB4.out.trans (Below.setCell (Below.refl _ w4) (p := ⟨w.heap.size, p, none⟩) (Nat.le_refl w.heap.size) (.bool true)))
      go_upto_region 15 with fail
      clear hbc4 hfz
      generalize w4.setCell ⟨w.heap.size, p, none⟩ (.bool true) = w5 at HBt5 HX5 HO5 HB5 ⊢
      have hz5 := HB5.out.size
      have x0 := HX5.out.cell 0
      have x1 := HX5.out.cell 1
      have x2 := HX5.out.cell 2
      have x3 := HX5.out.cell 3
      simp at x0 x1 x2 x3
      go_wp2_with fail
      refine (nexts_c code _ p ⟨jop, ja, jb, jn⟩ w5 (HRd.out.on HB5.out) HBy.out hlen (by omega) HV.out hs1 hs5).mono ?_
      rintro e w6 ⟨v6, rfl, hown6, hb6⟩
      rw [HL1.out] at hown6
      obtain ⟨bt, hbt⟩ : ∃ b, badTab code ⟨jop, ja, jb, jn⟩ = b := ⟨_, rfl⟩
      rw [hbt]
      have HBd := hid hbt
      have HX6 := hid (HX5.out.on hb6)
      have HO6 := hid (own_on HO5.out hb6)
      have HB6 := hid (HB5.out.trans (hb6.mono hz5))
      have HBt6 := hid (HBt5.out.on hb6)
      have hz6 := HB6.out.size
      obtain ⟨s6, c6, rfl⟩ := own_slice hown6
      have HSrc := hid (SrcAt.of_rd (Rd.of_own hown6))
      clear hown6 hb6 hbt x0 x1 x2 x3
      cases b
      all_goals
        go_wp2_with (at_builtin; refine app_ints _ rfl _ _ rfl w.heap.size L l1 _ rfl HO6.out _ _ _ rfl rfl HSrc.out (by omega) (by omega) ?_)
        intro v7 w7 hg7
        have hown7 := hg7.own
        obtain ⟨L1, hL1⟩ : ∃ x, L ++ l1 = x := ⟨_, rfl⟩
        have hl1 : L1.length ≤ 300000 := by rw [← hL1, List.length_append]; omega
        have HLn := hid (show L1.length = L.length + l1.length by rw [← hL1, List.length_append])
        rw [hL1] at hown7
        have HL7 := hid hL1
        have HO7 := hid hown7
        have HX7 := hid (hg7.row HX6.out (no_own HX6.out HO6.out (by decide)))
        have HB7 := hid (HB6.out.trans hg7.bel)
        have HBt7 := hid (show BAt w7 w.heap.size code.length _ from (by obtain ⟨cur, hcr, hcs⟩ := HBt6.out; exact ⟨cur, hg7.row hcr (no_own hcr HO6.out (by decide)), hcs⟩))
        have hz7 := HB7.out.size
        obtain ⟨s7, c7, rfl⟩ := own_slice hown7
        clear hg7 hown7 hL1
        have x0 := HX7.out.cell 0
        have x3 := HX7.out.cell 3
        simp at x0 x3
        by_cases h29 : jop = 29
        · subst h29
          go_wp2_with (at_builtin; refine app_ints _ rfl _ _ rfl w.heap.size L1 [jn] _ rfl (HO7.out.alloc _) _ _ _ rfl rfl (SrcAt.at_ _ [jn] #[.int .i64 jn] _ 1 rfl (by simp) rfl) (by simp; omega) (by simp; omega) ?_)
          intro v8 w8 hg8
          have HO8 := hid hg8.own
          have HB8 := hid ((HB7.out.alloc hz7 (.cells #[.int .i64 jn] 3)).trans hg8.bel)
          have HBt8 := hid (show BAt w8 w.heap.size code.length _ from (by obtain ⟨cur, hcr, hcs⟩ := HBt7.out.on ((Below.refl _ _).alloc (Nat.le_refl _) (.cells #[.int .i64 jn] 3)); exact ⟨cur, hg8.row hcr (no_own hcr (HO7.out.alloc (.cells #[.int .i64 jn] 3)) (by decide)), hcs⟩))
          obtain ⟨s8, c8, rfl⟩ := own_slice hg8.own
          clear hg8
          go_wp2_with fail
          go_roundw
          case rel => exact ⟨ms ++ [p], L1 ++ [jn], k + 1, by go_num, by rw [HLs.out, HLo.out, HBd.out]; cases bt <;> rfl, HStep.out _ _ _ (by rw [HGp.out, ← HL7.out]; simp) HO8.out HBt8.out HB8.out⟩
          case measure =>
            rw [bfree_eq HBt8.out, bfree_eq HR.out.bat]
            have hfs := free_step (fun q => decide (q ∈ insOf code ms)) (fun q => decide (q ∈ insOf code ms) || q == p) p (decide_eq_false HSn.out) (fun _ => rfl) code.length
            rw [if_pos hpl] at hfs
            have hln := HLn.out
            simp only [lenOf, intOf, List.length_append, List.length_singleton]
            omega
        · have hne : (jop == 29) = false := by rw [beq_eq_false_iff_ne]; exact h29
          have H29 := hid h29
          clear h29
          go_wp2_with fail
          go_roundw
          case rel => exact ⟨ms ++ [p], L1, k + 1, by go_num, by rw [HLs.out, HLo.out, HBd.out]; cases bt <;> rfl, HStep.out _ _ _ (by rw [HGp.out, if_neg (fun h => H29.out h.2), ← HL7.out]; simp) HO7.out HBt7.out HB7.out⟩
          case measure =>
            rw [bfree_eq HBt7.out, bfree_eq HR.out.bat]
            have hfs := free_step (fun q => decide (q ∈ insOf code ms)) (fun q => decide (q ∈ insOf code ms) || q == p) p (decide_eq_false HSn.out) (fun _ => rfl) code.length
            rw [if_pos hpl] at hfs
            have hln := HLn.out
            simp only [lenOf, intOf, List.length_append, List.length_singleton]
            omega
theorem walk_c (code S : List Int) (calls : Bool) (ac sa : Option Addr) (cc sc : Nat) (w : World) (hr : Rd w (.slice ac code.length cc) code) (hs : Rd w (.slice sa S.length sc) S) (hb : code.all isByte = true) (hlen : code.length ≤ 2000) (hpos : 0 < code.length)
    (hS : ∀ q ∈ S, 0 ≤ q ∧ q ≤ 100000) (hSl : S.length ≤ 100000) :
    Calls Tryz.prog 46 #[.slice ac code.length cc, .slice sa S.length sc, .bool calls] w (WalkPost code S calls w) := by
  cases calls
  · exact walk_off code S ac sa cc sc w hr hs hb hlen hpos hS hSl
  · exact walk_on code S ac sa cc sc w hr hs hb hlen hpos hS hSl
end Go.Proofs.YtihhpgklpichgaaGreat.Wk
